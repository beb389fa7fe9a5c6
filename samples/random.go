package samples

import (
	"slices"

	"groove/api"
)

// Source is what random samples are made from. The tests bring theirs along, since the program has no random source.
type Source interface {
	Intn(n int) int
	Float64() float64
}

// Random returns a graph with some labels, states and edges, some of which may be equal.
func Random(r Source, labels, states, edges int) api.Graph {
	var list []api.Edge
	for range edges {
		list = append(list, api.Edge{From: r.Intn(states), Label: r.Intn(labels), To: r.Intn(states)})
	}
	return Made(labels, states, list)
}

// Deterministic returns a graph with one edge for each state and label, or none with some probability.
func Deterministic(r Source, labels, states int, none float64) api.Graph {
	var list []api.Edge
	for s := range states {
		for label := range labels {
			if r.Float64() >= none {
				list = append(list, api.Edge{From: s, Label: label, To: r.Intn(states)})
			}
		}
	}
	return Made(labels, states, list)
}

// Small returns all small graphs, and random ones with at most 5 states and 3 labels.
func Small(r Source) []api.Graph {
	list := slices.Concat(Subgraphs(1, 0), Subgraphs(3, 0), Subgraphs(1, 1), Subgraphs(3, 1), Subgraphs(1, 2), Subgraphs(2, 2), Subgraphs(1, 3))
	list = append(list, Even(), Golden(), Of(2, 4), Line(2, 4, 3, 1, 0), Line(1, 5), Cycles(2, 3))
	for range 300 {
		states := 1 + r.Intn(5)
		list = append(list, Random(r, 2, states, r.Intn(1+3*states)), Random(r, 1+r.Intn(3), states, r.Intn(1+4*states)), Deterministic(r, 1+r.Intn(3), states, 0.5*r.Float64()))
	}
	return list
}

// Large returns graphs with many states, labels and edges; there are too many sets of states of some of them.
func Large(r Source) []api.Graph {
	list := []api.Graph{
		Of(256, 0), Of(256, 1), Of(1, 64), Of(256, 64), Whole(1), Whole(16), Whole(256), Line(1, 64), Line(2, 64, 63, 1, 0), Cycles(64), Cycles(7, 8), Cycles(3, 5, 7), Cycles(2, 3, 5, 7, 11),
		Of(256, 64, 0, 255, 63), Of(256, 64, 0, 255, 63, 63, 0, 0, 63, 255, 63), With(Of(256, 4), 0, 256, 0, 1, 2, 3),
	}
	for range 25 {
		states := 6 + r.Intn(59)
		list = append(list, Random(r, 2, 6, 10), Random(r, 2, 8, 12), Random(r, 3, 64, 64+r.Intn(64)), Random(r, 2, states, states), Random(r, 16, states, 1000), Random(r, 256, states, 1024))
		list = append(list, Deterministic(r, 2, 8, 0.3), Deterministic(r, 3, states, 0.5), Deterministic(r, 16, states, 0.3), Deterministic(r, 256, 4, 0.1))
	}
	return list
}
