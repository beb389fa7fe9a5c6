package subset

import (
	"slices"

	"groove/api"
)

// Focus returns the first focus of g, the state to which it leads, and whether there is one.
func Focus(g api.Graph) ([]int, int, bool, api.Errno) {
	h, sets, e := Build(g)
	if e != api.OK {
		return nil, 0, false, e
	}
	// Sets are found in the order of the first lists of labels that lead to them.
	i := slices.IndexFunc(sets, func(set []int) bool { return len(set) == 1 })
	if i < 0 {
		return nil, 0, false, api.OK
	}
	return labelsTo(h, i), sets[i][0], true, api.OK
}

// labelsTo returns the first list of labels that leads from the state 0 of a graph of sets to a state.
func labelsTo(h api.Graph, s int) []int {
	var labels []int
	for s != 0 {
		// The first edge to a set is the one by which it was found, so it comes from a set that was found before.
		i := slices.IndexFunc(h.Edges, func(edge api.Edge) bool { return edge.To == s })
		labels = append(labels, h.Edges[i].Label)
		s = h.Edges[i].From
	}
	slices.Reverse(labels)
	return labels
}
