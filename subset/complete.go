package subset

import (
	"slices"

	"groove/api"
	"groove/graph"
)

// Complete returns the automaton that goes where the edges of g go, and the number of the further state to which edges lead that are missing, if there are any.
func Complete(g api.Graph) (api.Automaton, []int, api.Errno) {
	is, e := graph.Deterministic(g)
	if e != api.OK {
		return api.Automaton{}, nil, e
	}
	if !is {
		return api.Automaton{}, nil, api.ErrKind
	}
	sink := g.States
	a := api.Automaton{Letters: g.Labels}
	for range g.States {
		a.Next = append(a.Next, slices.Repeat([]int{sink}, g.Labels))
	}
	for _, edge := range g.Edges {
		a.Next[edge.From][edge.Label] = edge.To
	}
	if len(g.Edges) == g.States*g.Labels {
		return a, nil, api.OK
	}
	a.Next = append(a.Next, slices.Repeat([]int{sink}, g.Labels))
	return a, []int{sink}, api.OK
}
