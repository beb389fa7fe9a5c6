package graph

import (
	"iter"
	"slices"

	"groove/api"
)

// Out returns the indices of the edges that leave the state s, in ascending order.
func Out(g api.Graph, s int) ([]int, api.Errno) {
	if !isValid(g) {
		return nil, api.ErrArgument
	}
	if !isState(g, s) {
		return nil, api.ErrState
	}
	var list []int
	for i := range leaving(g, s) {
		list = append(list, i)
	}
	return list, api.OK
}

// Step returns the set of the states to which edges with a label lead from states of a set.
func Step(g api.Graph, set []int, label int) ([]int, api.Errno) {
	if !isValid(g) {
		return nil, api.ErrArgument
	}
	if e := checkSet(g, set); e != api.OK {
		return nil, e
	}
	if !isLabel(g, label) {
		return nil, api.ErrRange
	}
	reached := make([]bool, g.States)
	for _, s := range set {
		for _, edge := range leaving(g, s) {
			if edge.Label == label {
				reached[edge.To] = true
			}
		}
	}
	return members(reached), api.OK
}

// Deterministic returns whether no two edges of g leave the same state with the same label.
func Deterministic(g api.Graph) (bool, api.Errno) {
	if !isValid(g) {
		return false, api.ErrArgument
	}
	for i := 1; i < len(g.Edges); i++ {
		// Edges are ordered by their targets last, so two such edges would be neighbours somewhere.
		before, edge := g.Edges[i-1], g.Edges[i]
		if before.From == edge.From && before.Label == edge.Label {
			return false, api.OK
		}
	}
	return true, api.OK
}

// Reverse returns the graph with all edges of g turned around.
func Reverse(g api.Graph) (api.Graph, api.Errno) {
	if !isValid(g) {
		return api.Graph{}, api.ErrArgument
	}
	turned := make([]api.Edge, len(g.Edges))
	for i, edge := range g.Edges {
		turned[i] = api.Edge{From: edge.To, Label: edge.Label, To: edge.From}
	}
	return Make(g.Labels, g.States, turned)
}

// leaving yields the edges that leave a state of a valid graph, with their indices.
func leaving(g api.Graph, s int) iter.Seq2[int, api.Edge] {
	return func(yield func(int, api.Edge) bool) {
		first, _ := slices.BinarySearchFunc(g.Edges, s, func(edge api.Edge, s int) int {
			return edge.From - s
		})
		for i := first; i < len(g.Edges) && g.Edges[i].From == s; i++ {
			if !yield(i, g.Edges[i]) {
				return
			}
		}
	}
}

// checkSet returns the error of the first number that has one in a list that should be a set of states of g.
func checkSet(g api.Graph, set []int) api.Errno {
	for i, s := range set {
		if !isState(g, s) {
			return api.ErrState
		}
		if i > 0 && s <= set[i-1] {
			return api.ErrOrder
		}
	}
	return api.OK
}

// members returns the set of the states that belong to it.
func members(belongs []bool) []int {
	var set []int
	for s, is := range belongs {
		if is {
			set = append(set, s)
		}
	}
	return set
}
