package component

import (
	"slices"

	"groove/api"
	"groove/graph"
)

// noPath stands in place of the length of a path where there is none.
const noPath = -1

// Reach returns all states of g that are reached from the state s, in ascending order.
func Reach(g api.Graph, s int) ([]int, api.Errno) {
	if graph.Check(g) != api.OK {
		return nil, api.ErrArgument
	}
	if s < 0 || s >= g.States {
		return nil, api.ErrState
	}
	var reached []int
	for t, length := range lengths(targets(g), s) {
		if length != noPath {
			reached = append(reached, t)
		}
	}
	return reached, api.OK
}

// targets returns, for each state of a valid graph, the states to which edges lead from it.
func targets(g api.Graph) [][]int {
	list := make([][]int, g.States)
	for _, edge := range g.Edges {
		list[edge.From] = append(list[edge.From], edge.To)
	}
	return list
}

// lengths returns, for each state, the length of some path to it from the state s, or noPath; next are the targets of each state.
func lengths(next [][]int, s int) []int {
	found := slices.Repeat([]int{noPath}, len(next))
	var visit func(s, length int)
	visit = func(s, length int) {
		if found[s] != noPath {
			return
		}
		found[s] = length
		for _, t := range next[s] {
			visit(t, length+1)
		}
	}
	visit(s, 0)
	return found
}

// allLengths returns, for each state of a valid graph, the lengths of paths from it.
func allLengths(g api.Graph) [][]int {
	next := targets(g)
	list := make([][]int, g.States)
	for s := range list {
		list[s] = lengths(next, s)
	}
	return list
}
