package power

import (
	"slices"

	"groove/api"
	"groove/graph"
)

// Product returns the essential part of the graph of all pairs of a state of g and one of h, and the pair that each of its states is.
func Product(g, h api.Graph) (api.Graph, [][]int, api.Errno) {
	if e := checkBoth(g, h); e != api.OK {
		return api.Graph{}, nil, e
	}
	all, e := allPairs(g, h)
	if e != api.OK {
		return api.Graph{}, nil, e
	}
	part, numbers, e := graph.Essential(all)
	if e != api.OK {
		return api.Graph{}, nil, e
	}
	var list [][]int
	for _, number := range numbers {
		p := pairOf(number, h)
		list = append(list, p[:])
	}
	return part, list, api.OK
}

// Sum returns the graph with the states of g, followed by those of h, and all edges of both.
func Sum(g, h api.Graph) (api.Graph, api.Errno) {
	if e := checkBoth(g, h); e != api.OK {
		return api.Graph{}, e
	}
	edges := slices.Clone(g.Edges)
	for _, edge := range h.Edges {
		edges = append(edges, api.Edge{From: g.States + edge.From, Label: edge.Label, To: g.States + edge.To})
	}
	return graph.Make(g.Labels, g.States+h.States, edges)
}

// checkBoth returns ErrArgument if one of two graphs is not valid, ErrMismatch if they have different numbers of labels, and otherwise OK.
func checkBoth(g, h api.Graph) api.Errno {
	if graph.Check(g) != api.OK || graph.Check(h) != api.OK {
		return api.ErrArgument
	}
	if g.Labels != h.Labels {
		return api.ErrMismatch
	}
	return api.OK
}

// pair is a state of a first graph, and one of a second graph.
type pair [2]int

// number returns the number of a pair among all of them, if h is the second graph.
func (p pair) number(h api.Graph) int { return p[0]*h.States + p[1] }

// pairOf returns the pair with a number, if h is the second graph.
func pairOf(number int, h api.Graph) pair {
	return pair{number / h.States, number % h.States}
}

// allPairs returns the graph of all pairs of a state of g and one of h.
func allPairs(g, h api.Graph) (api.Graph, api.Errno) {
	var edges []api.Edge
	for _, one := range g.Edges {
		for _, other := range h.Edges {
			if one.Label != other.Label {
				continue
			}
			if len(edges) == api.MaxEdge {
				return api.Graph{}, api.ErrLimit
			}
			from, to := pair{one.From, other.From}, pair{one.To, other.To}
			edges = append(edges, api.Edge{From: from.number(h), Label: one.Label, To: to.number(h)})
		}
	}
	return graph.Make(g.Labels, g.States*h.States, edges)
}
