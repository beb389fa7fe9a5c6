package graph

import (
	"slices"

	"groove/api"
)

// Keep returns the part of g on a set of states.
func Keep(g api.Graph, states []int) (api.Graph, api.Errno) {
	if !isValid(g) {
		return api.Graph{}, api.ErrArgument
	}
	if e := checkSet(g, states); e != api.OK {
		return api.Graph{}, e
	}
	return part(g, states), api.OK
}

// Essential returns the essential part of g, and the set of the essential states.
func Essential(g api.Graph) (api.Graph, []int, api.Errno) {
	if !isValid(g) {
		return api.Graph{}, nil, api.ErrArgument
	}
	states := essential(g)
	return part(g, states), states, api.OK
}

// part returns the part of a valid graph on a set of its states.
func part(g api.Graph, states []int) api.Graph {
	belongs := make([]bool, g.States)
	number := make([]int, g.States)
	for i, s := range states {
		belongs[s], number[s] = true, i
	}
	p := api.Graph{Labels: g.Labels, States: len(states)}
	// New numbers ascend with the old ones, so the edges remain in their order.
	for _, edge := range g.Edges {
		if belongs[edge.From] && belongs[edge.To] {
			p.Edges = append(p.Edges, api.Edge{From: number[edge.From], Label: edge.Label, To: number[edge.To]})
		}
	}
	return p
}

// essential returns the set of the essential states of a valid graph.
// States without an edge to them or from them are left out until there are none: along the others paths go on without end in both directions, and the states of such paths are never left out.
func essential(g api.Graph) []int {
	belongs := slices.Repeat([]bool{true}, g.States)
	for {
		kept := passed(g, belongs)
		if slices.Equal(kept, belongs) {
			return members(belongs)
		}
		belongs = kept
	}
}

// passed returns which states have an edge to them and an edge from them, among the edges between states that belong to a set.
func passed(g api.Graph, belongs []bool) []bool {
	entered, left := make([]bool, g.States), make([]bool, g.States)
	for _, edge := range g.Edges {
		if belongs[edge.From] && belongs[edge.To] {
			left[edge.From], entered[edge.To] = true, true
		}
	}
	both := make([]bool, g.States)
	for s := range both {
		both[s] = entered[s] && left[s]
	}
	return both
}
