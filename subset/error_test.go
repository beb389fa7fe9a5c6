package subset_test

import (
	"math"
	"slices"
	"testing"

	"groove/api"
	"groove/graph"
	"groove/subset"
)

// faults returns graphs that are not valid: wrong labels, states and edges, wrong orders, and too many edges.
func faults() []api.Graph {
	list := []api.Graph{
		{}, {Labels: 1, States: 65}, {Labels: 1, States: 1, Edges: make([]api.Edge, 2)}, {Labels: 1, States: 0, Edges: make([]api.Edge, 1)}, {Labels: 1, States: 1, Edges: make([]api.Edge, api.MaxEdge+1)},
		{Labels: 1, States: 2, Edges: []api.Edge{{From: 1}, {To: 1}}}, {Labels: 2, States: 2, Edges: []api.Edge{{Label: 1}, {To: 1}}}, {Labels: 2, States: 2, Edges: []api.Edge{{To: 1}, {To: 0}, {From: 1}}},
	}
	for _, n := range append(noNumbers(), 257, 0) {
		list = append(list, api.Graph{Labels: n}, api.Graph{Labels: n, States: 1, Edges: []api.Edge{{}}})
	}
	for _, n := range append(noNumbers(), 2) {
		list = append(list, api.Graph{Labels: 2, States: 2, Edges: []api.Edge{{From: n}}}, api.Graph{Labels: 2, States: 2, Edges: []api.Edge{{Label: n}}}, api.Graph{Labels: 2, States: 2, Edges: []api.Edge{{}, {From: 1, To: n}}})
		if n != 2 {
			list = append(list, api.Graph{Labels: 2, States: n}, api.Graph{Labels: 2, States: n, Edges: []api.Edge{{}}})
		}
	}
	return list
}

// checkFromError checks that From returns an error, and no other result.
func checkFromError(t *testing.T, g api.Graph, set []int, want api.Errno) {
	t.Helper()
	if h, sets, e := subset.From(g, set); e != want || !isZero(h) || len(sets) > 0 {
		t.Errorf("P12.1: From %v, %v: %v, %v, %d, not %d", g, set[:min(len(set), 20)], h, sets, e, want)
	}
}

// P12.1: graphs that are not valid come first, whatever else is wrong, and there is no other result.
func TestFaults(t *testing.T) {
	for _, g := range faults() {
		if h, sets, e := subset.Build(g); e != api.ErrArgument || !isZero(h) || len(sets) > 0 {
			t.Errorf("P12.1: Build %v: %v, %v, %d", g, h, sets, e)
		}
		for _, set := range [][]int{nil, {}, {0}, {0, 1}, {-1}, {64}, {0, 0}, {1, 0}} {
			checkFromError(t, g, set, api.ErrArgument)
		}
		if focus, s, is, e := subset.Focus(g); e != api.ErrArgument || len(focus) > 0 || s != 0 || is {
			t.Errorf("P12.1: Focus %v: %v, %d, %t, %d", g, focus, s, is, e)
		}
		for _, n := range append(noNumbers(), 0, 1, api.MaxPower, api.MaxPower+1) {
			if number, e := subset.Count(g, n); e != api.ErrArgument || number != (api.Int{}) {
				t.Errorf("P12.1: Count %v, %d: %v, %d", g, n, number, e)
			}
		}
		if a, sink, e := subset.Complete(g); e != api.ErrArgument || a.Letters != 0 || len(a.Next) > 0 || len(sink) > 0 {
			t.Errorf("P12.1: Complete %v: %v, %v, %d", g, a, sink, e)
		}
	}
}

// P12.1: the empty set, also of a graph that has no other one.
func TestEmpty(t *testing.T) {
	for _, g := range []api.Graph{even(), of(1, 0), of(256, 0), of(1, 64), line(2, 64, 0, 1, 62)} {
		checkFromError(t, g, nil, api.ErrEmpty)
		checkFromError(t, g, []int{}, api.ErrEmpty)
	}
}

// P12.1: lists that are no sets have the error of the first number that has one, before that of a limit.
func TestNoSets(t *testing.T) {
	for _, g := range []api.Graph{with(of(1, 5), 0, 1, 0, 1, 2, 3, 4), seven(253, 0, 0), cycles(5, 13), cycles(64)} {
		states := g.States
		for _, s := range append(noNumbers(), states, states+1, 64, 65, 128) {
			for _, set := range [][]int{{s}, {s, s}, {0, s}, {s, 0}, {0, 1, s}, {0, s, 1}, {0, s, s}, {0, 2, s, 1, 1}, {s, 2, 1}} {
				checkFromError(t, g, set, api.ErrState)
			}
			for _, set := range [][]int{{0, 0, s}, {1, 0, s}, {0, 2, 1, s}, {0, 2, 2, s, 1}} {
				checkFromError(t, g, set, api.ErrOrder)
			}
		}
		for _, set := range [][]int{{0, 0}, {1, 0}, {2, 2}, {0, 1, 1}, {0, 2, 1}, {1, 0, 2}, append(all(g), 0), append(all(g), states-1), slices.Repeat([]int{1}, 100000)} {
			checkFromError(t, g, set, api.ErrOrder)
		}
		// A number outside the graph is no state before it is out of order.
		checkFromError(t, g, append(all(g), -1), api.ErrState)
		checkFromError(t, g, append(all(g), states), api.ErrState)
	}
	for _, labels := range []int{1, 256} {
		for _, set := range [][]int{{0}, {-1}, {0, 0}, {1, 0}, {math.MaxInt}} {
			checkFromError(t, of(labels, 0), set, api.ErrState)
		}
	}
}

// P12.1: numbers of labels below 0 and above the greatest one; both bounds.
func TestLengths(t *testing.T) {
	for _, g := range []api.Graph{even(), of(1, 0), of(256, 1), whole(256), line(1, 64)} {
		for _, n := range append(noNumbers(), api.MaxPower+1, api.MaxPower+2, api.MaxWord) {
			if number, e := subset.Count(g, n); e != api.ErrRange || number != (api.Int{}) {
				t.Errorf("P12.1: Count %v, %d: %s, %d", g, n, short(number), e)
			}
		}
		for _, n := range []int{0, api.MaxPower} {
			if _, e := subset.Count(g, n); e != api.OK {
				t.Errorf("P12.1: Count %v, %d: %d", g, n, e)
			}
		}
	}
}

// P12.1: only deterministic graphs can be completed; edges that lack, or too many sets, are no errors.
func TestKinds(t *testing.T) {
	for _, g := range slices.Concat(small(15), large(16)) {
		is, _ := graph.Deterministic(g)
		a, sink, e := subset.Complete(g)
		if is && e != api.OK || !is && (e != api.ErrKind || a.Letters != 0 || len(a.Next) > 0 || len(sink) > 0) {
			t.Errorf("P12.1: Complete %v: %v, %v, %d", g, a, sink, e)
		}
	}
	for _, g := range []api.Graph{of(1, 2, 0, 0, 0, 0, 0, 1), of(2, 2, 0, 0, 0, 0, 1, 0, 1, 0, 0, 1, 1, 0, 1, 1, 1), of(256, 64, 63, 255, 0, 63, 255, 63)} {
		if a, sink, e := subset.Complete(g); e != api.ErrKind || a.Letters != 0 || len(a.Next) > 0 || len(sink) > 0 {
			t.Errorf("P12.1: Complete %v: %v, %v, %d", g, a, sink, e)
		}
	}
	checkComplete(t, line(2, 64, 0, 1, 62))
}

// P12.1: no function changes its arguments, and what a caller does with results changes neither the arguments nor other results.
func TestMemory(t *testing.T) {
	for _, g := range []api.Graph{even(), golden(), line(2, 5, 3, 1, 0), seven(1, 1, 1)} {
		edges, first := slices.Clone(g.Edges), all(g)
		want, wantSets := buildOf(t, g)
		wantFocus, _, _ := focusOf(t, g)
		for range 3 {
			h, sets := fromOf(t, g, first)
			focus, _, _ := focusOf(t, g)
			if !isGraph(h, want) || !isSame(sets, wantSets) || !slices.Equal(focus, wantFocus) {
				t.Fatalf("P12.1: the sets of %v, or its focus, have changed: %v, %v, %v", g, h, sets, focus)
			}
			a, sink := completeOf(t, h)
			again, _ := completeOf(t, h)
			lists := slices.Concat([][]int{focus, sink}, sets, a.Next)
			for i, list := range lists {
				fill(list[:cap(list)], -9)
				for _, other := range lists[i+1:] {
					if len(other) > 0 && other[0] == -9 {
						t.Fatalf("P12.1: two lists of the results for %v share memory", g)
					}
				}
			}
			fill(h.Edges, api.Edge{From: -9})
			if b, _ := completeOf(t, want); !isSame(again.Next, b.Next) {
				t.Fatalf("P12.1: the automaton of %v has changed: %v, not %v", want, again, b)
			}
			if !slices.Equal(g.Edges, edges) || !slices.Equal(first, all(g)) {
				t.Fatalf("P12.1: %v, or a set of its states, has changed", g)
			}
		}
	}
}

// fill writes a value to each place of a list.
func fill[T any](list []T, value T) {
	for i := range list {
		list[i] = value
	}
}
