package language

import (
	"slices"

	"groove/api"
	"groove/graph"
	"groove/states"
)

// Path returns the lexicographically least list of indices of edges that are a path labelled w.
func Path(g api.Graph, w string) ([]int, api.Errno) {
	if e := checkWord(g, w); e != api.OK {
		return nil, e
	}
	starts, e := starting(g, w)
	if e != api.OK {
		return nil, e
	}
	from := starts[0]
	if from == 0 {
		return nil, api.ErrWord
	}
	path := make([]int, len(w))
	for i := range path {
		label, ends := labelOf(w[i]), starts[i+1]
		// Any edge to these ends can be gone on from, so the least one belongs to the least path.
		path[i] = slices.IndexFunc(g.Edges, func(edge api.Edge) bool {
			return edge.Label == label && from.Has(edge.From) && ends.Has(edge.To)
		})
		from = states.Of(g.Edges[path[i]].To)
	}
	return path, api.OK
}

// starting returns, for each offset in w, and for its length, the states in which paths begin that are labelled with the rest of w from there on.
func starting(g api.Graph, w string) ([]states.Set, api.Errno) {
	reversed, e := graph.Reverse(g)
	if e != api.OK {
		return nil, e
	}
	m := states.MovesOf(reversed)
	list := make([]states.Set, len(w)+1)
	list[len(w)] = states.Every(g)
	for i := len(w) - 1; i >= 0; i-- {
		list[i] = m.Step(list[i+1], labelOf(w[i]))
	}
	return list, api.OK
}
