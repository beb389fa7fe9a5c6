package power

import (
	"groove/api"
	"groove/graph"
)

// Higher returns the higher graph n of g, whose states are the paths of n edges.
func Higher(g api.Graph, n int) (api.Graph, api.Errno) {
	if graph.Check(g) != api.OK {
		return api.Graph{}, api.ErrArgument
	}
	if n < 0 || n > api.MaxBlock {
		return api.Graph{}, api.ErrRange
	}
	h, e := graph.Make(g.Labels, g.States, g.Edges)
	for range n {
		if h, e = edgeGraph(h); e != api.OK {
			return api.Graph{}, e
		}
	}
	return h, e
}

// edgeGraph returns the higher graph 1 of a valid graph, whose states are the edges.
// For the higher graph n it is the higher graph n + 1, since the edges of that one are the paths of n + 1 edges, and stand in their order.
func edgeGraph(g api.Graph) (api.Graph, api.Errno) {
	if len(g.Edges) > api.MaxState {
		return api.Graph{}, api.ErrLimit
	}
	var edges []api.Edge
	for i, edge := range g.Edges {
		for j, next := range g.Edges {
			if edge.To == next.From {
				edges = append(edges, api.Edge{From: i, Label: next.Label, To: j})
			}
		}
	}
	return graph.Make(g.Labels, len(g.Edges), edges)
}
