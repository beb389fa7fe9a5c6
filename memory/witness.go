package memory

import (
	"cmp"
	"slices"

	"groove/api"
	"groove/graph"
)

// Witness returns the first two closed paths with equal labels that are never in the same state at the same time, as indices of edges, and whether there are such.
func Witness(g api.Graph) ([]int, []int, bool, api.Errno) {
	deterministic, e := graph.Deterministic(g)
	if e != api.OK {
		return nil, nil, false, e
	}
	if !deterministic {
		return nil, nil, false, api.ErrKind
	}
	w := webOf(g)
	var best cycle
	for s := range g.States {
		// If the second path began in a lesser state, it would be the first one.
		for t := s + 1; t < g.States; t++ {
			if c := w.cycleFrom(pair{s, t}); c.isBefore(best) {
				best = c
			}
		}
	}
	return best.first, best.second, len(best.first) > 0, api.OK
}

// pair is the states in which two paths are at the same time.
type pair [2]int

// table has something for each pair.
type table[T any] [api.MaxState][api.MaxState]T

// at returns the place of a pair.
func (t *table[T]) at(p pair) *T { return &t[p[0]][p[1]] }

// arc leads to a pair along two edges with equal labels.
type arc struct {
	to            pair
	first, second int // indices of the edges
}

// web has the arcs that leave each pair, in the order of their first edges, and the pairs from which arcs reach it.
type web struct {
	leaving  table[[]arc]
	reaching table[[]pair]
}

// webOf returns the web of a deterministic graph. No arc leaves a pair of equal states there, so two paths that meet do not come back.
func webOf(g api.Graph) *web {
	w := new(web)
	for i, j := range twins(g) {
		from, to := pair{g.Edges[i].From, g.Edges[j].From}, pair{g.Edges[i].To, g.Edges[j].To}
		*w.leaving.at(from) = append(*w.leaving.at(from), arc{to, i, j})
		*w.reaching.at(to) = append(*w.reaching.at(to), from)
	}
	return w
}

// cycle is two closed paths of equally many edges; without edges it is none.
type cycle struct{ first, second []int }

// isBefore returns whether c is a cycle that comes before d, or d is none.
func (c cycle) isBefore(d cycle) bool {
	if len(c.first) == 0 || len(d.first) == 0 {
		return len(c.first) > 0
	}
	return cmp.Or(cmp.Compare(len(c.first), len(d.first)), slices.Compare(c.first, d.first), slices.Compare(c.second, d.second)) < 0
}

// cycleFrom returns the first cycle that begins in a pair, if there is one.
func (w *web) cycleFrom(start pair) cycle {
	var c cycle
	onWay := w.waysTo(start)
	left := 0
	for _, a := range *w.leaving.at(start) {
		if n := *onWay.at(a.to); n > 0 && (left == 0 || n < left) {
			left = n
		}
	}
	for at := start; left > 0; left-- {
		// Some arc leads nearer to the start, and the first one has the least edge.
		arcs := *w.leaving.at(at)
		a := arcs[slices.IndexFunc(arcs, func(a arc) bool { return *onWay.at(a.to) == left })]
		c.first, c.second = append(c.first, a.first), append(c.second, a.second)
		at = a.to
	}
	return c
}

// waysTo returns, for each pair, how many pairs are on the shortest way from it to the last one, both of them counted, and 0 where there is none.
func (w *web) waysTo(last pair) *table[int] {
	onWay := new(table[int])
	*onWay.at(last) = 1
	queue := []pair{last}
	for i := 0; i < len(queue); i++ {
		for _, from := range *w.reaching.at(queue[i]) {
			if *onWay.at(from) == 0 {
				*onWay.at(from) = *onWay.at(queue[i]) + 1
				queue = append(queue, from)
			}
		}
	}
	return onWay
}
