package subset_test

import (
	"math"
	"slices"
	"testing"

	"groove/api"
	"groove/graph"
	"groove/samples"
	"groove/subset"
)

// checkFromError checks that From returns an error, and no other result.
func checkFromError(t *testing.T, g api.Graph, set []int, want api.Errno) {
	t.Helper()
	if h, sets, e := subset.From(g, set); e != want || !isZero(h) || len(sets) > 0 {
		t.Errorf("P12.1: From %v, %v: %v, %v, %d, not %d", g, set[:min(len(set), 20)], h, sets, e, want)
	}
}

// P12.1: graphs that are not valid come first, whatever else is wrong, and there is no other result.
func TestFaults(t *testing.T) {
	for _, g := range samples.Faults() {
		if h, sets, e := subset.Build(g); e != api.ErrArgument || !isZero(h) || len(sets) > 0 {
			t.Errorf("P12.1: Build %v: %v, %v, %d", g, h, sets, e)
		}
		for _, set := range [][]int{nil, {}, {0}, {0, 1}, {-1}, {64}, {0, 0}, {1, 0}} {
			checkFromError(t, g, set, api.ErrArgument)
		}
		if focus, s, is, e := subset.Focus(g); e != api.ErrArgument || len(focus) > 0 || s != 0 || is {
			t.Errorf("P12.1: Focus %v: %v, %d, %t, %d", g, focus, s, is, e)
		}
		for _, n := range append(samples.NoNumbers(), 0, 1, api.MaxPower, api.MaxPower+1) {
			if number, e := subset.Count(g, n); e != api.ErrArgument || number != (api.Int{}) {
				t.Errorf("P12.1: Count %v, %d: %v, %d", g, n, number, e)
			}
		}
		if a, sink, e := subset.Complete(g); e != api.ErrArgument || a.Letters != 0 || len(a.Next) > 0 || len(sink) > 0 {
			t.Errorf("P12.1: Complete %v: %v, %v, %d", g, a, sink, e)
		}
	}
}

// P12.1: the empty set, also of a graph that has no other one.
func TestEmpty(t *testing.T) {
	for _, g := range []api.Graph{samples.Even(), samples.Of(1, 0), samples.Of(256, 0), samples.Of(1, 64), samples.Line(2, 64, 0, 1, 62)} {
		checkFromError(t, g, nil, api.ErrEmpty)
		checkFromError(t, g, []int{}, api.ErrEmpty)
	}
}

// P12.1: lists that are no sets have the error of the first number that has one, before that of a limit.
func TestNoSets(t *testing.T) {
	for _, g := range []api.Graph{samples.With(samples.Of(1, 5), 0, 1, 0, 1, 2, 3, 4), samples.Seven(253, 0, 0), samples.Cycles(5, 13), samples.Cycles(64)} {
		states := g.States
		for _, s := range append(samples.NoNumbers(), states, states+1, 64, 65, 128) {
			for _, set := range [][]int{{s}, {s, s}, {0, s}, {s, 0}, {0, 1, s}, {0, s, 1}, {0, s, s}, {0, 2, s, 1, 1}, {s, 2, 1}} {
				checkFromError(t, g, set, api.ErrState)
			}
			for _, set := range [][]int{{0, 0, s}, {1, 0, s}, {0, 2, 1, s}, {0, 2, 2, s, 1}} {
				checkFromError(t, g, set, api.ErrOrder)
			}
		}
		for _, set := range [][]int{{0, 0}, {1, 0}, {2, 2}, {0, 1, 1}, {0, 2, 1}, {1, 0, 2}, append(samples.All(g), 0), append(samples.All(g), states-1), slices.Repeat([]int{1}, 100000)} {
			checkFromError(t, g, set, api.ErrOrder)
		}
		// A number outside the graph is no state before it is out of order.
		checkFromError(t, g, append(samples.All(g), -1), api.ErrState)
		checkFromError(t, g, append(samples.All(g), states), api.ErrState)
	}
	for _, labels := range []int{1, 256} {
		for _, set := range [][]int{{0}, {-1}, {0, 0}, {1, 0}, {math.MaxInt}} {
			checkFromError(t, samples.Of(labels, 0), set, api.ErrState)
		}
	}
}

// P12.1: numbers of labels below 0 and above the greatest one; both bounds.
func TestLengths(t *testing.T) {
	for _, g := range []api.Graph{samples.Even(), samples.Of(1, 0), samples.Of(256, 1), samples.Whole(256), samples.Line(1, 64)} {
		for _, n := range append(samples.NoNumbers(), api.MaxPower+1, api.MaxPower+2, api.MaxWord) {
			if number, e := subset.Count(g, n); e != api.ErrRange || number != (api.Int{}) {
				t.Errorf("P12.1: Count %v, %d: %s, %d", g, n, short(number), e)
			}
		}
		for _, n := range []int{0, api.MaxPower} {
			if _, e := subset.Count(g, n); e != api.OK {
				t.Errorf("P12.1: Count %v, %d: %d", g, n, e)
			}
		}
	}
}

// P12.1: only deterministic graphs can be completed; edges that lack, or too many sets, are no errors.
func TestKinds(t *testing.T) {
	for _, g := range slices.Concat(small(15), large(16)) {
		is, _ := graph.Deterministic(g)
		a, sink, e := subset.Complete(g)
		if is && e != api.OK || !is && (e != api.ErrKind || a.Letters != 0 || len(a.Next) > 0 || len(sink) > 0) {
			t.Errorf("P12.1: Complete %v: %v, %v, %d", g, a, sink, e)
		}
	}
	for _, g := range []api.Graph{samples.Of(1, 2, 0, 0, 0, 0, 0, 1), samples.Of(2, 2, 0, 0, 0, 0, 1, 0, 1, 0, 0, 1, 1, 0, 1, 1, 1), samples.Of(256, 64, 63, 255, 0, 63, 255, 63)} {
		if a, sink, e := subset.Complete(g); e != api.ErrKind || a.Letters != 0 || len(a.Next) > 0 || len(sink) > 0 {
			t.Errorf("P12.1: Complete %v: %v, %v, %d", g, a, sink, e)
		}
	}
	checkComplete(t, samples.Line(2, 64, 0, 1, 62))
}

// P12.1: no function changes its arguments, and what a caller does with results changes neither the arguments nor other results.
func TestMemory(t *testing.T) {
	for _, g := range []api.Graph{samples.Even(), samples.Golden(), samples.Line(2, 5, 3, 1, 0), samples.Seven(1, 1, 1)} {
		edges, first := slices.Clone(g.Edges), samples.All(g)
		want, wantSets := buildOf(t, g)
		wantFocus, _, _ := focusOf(t, g)
		for range 3 {
			h, sets := fromOf(t, g, first)
			focus, _, _ := focusOf(t, g)
			if !graph.Same(h, want) || !isSame(sets, wantSets) || !slices.Equal(focus, wantFocus) {
				t.Fatalf("P12.1: the sets of %v, or its focus, have changed: %v, %v, %v", g, h, sets, focus)
			}
			a, sink := completeOf(t, h)
			again, _ := completeOf(t, h)
			lists := slices.Concat([][]int{focus, sink}, sets, a.Next)
			for i, list := range lists {
				fill(list[:cap(list)], -9)
				for _, other := range lists[i+1:] {
					if len(other) > 0 && other[0] == -9 {
						t.Fatalf("P12.1: two lists of the results for %v share memory", g)
					}
				}
			}
			fill(h.Edges, api.Edge{From: -9})
			if b, _ := completeOf(t, want); !isSame(again.Next, b.Next) {
				t.Fatalf("P12.1: the automaton of %v has changed: %v, not %v", want, again, b)
			}
			if !slices.Equal(g.Edges, edges) || !slices.Equal(first, samples.All(g)) {
				t.Fatalf("P12.1: %v, or a set of its states, has changed", g)
			}
		}
	}
}

// fill writes a value to each place of a list.
func fill[T any](list []T, value T) {
	for i := range list {
		list[i] = value
	}
}
