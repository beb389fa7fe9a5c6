package power_test

import (
	"math/rand"
	"slices"
	"testing"

	"groove/api"
	"groove/graph"
	"groove/minimal"
	"groove/power"
	"groove/samples"
)

// checkHigher checks the higher graph n of a graph against the definition, and returns the error.
func checkHigher(t *testing.T, g api.Graph, n int) api.Errno {
	t.Helper()
	want, f := higherBy(g, n)
	h, e := power.Higher(g, n)
	if e != f || !graph.Same(h, want) {
		t.Fatalf("P16.1: Higher %v, %d: %v, %d, not %v, %d", g, n, h, e, want, f)
	}
	return e
}

// crossing returns a graph with edges to one state, edges from it to others, and edges from it to itself, all with different labels.
func crossing(to, from, around int) api.Graph {
	var edges []api.Edge
	for i := range to {
		edges = append(edges, api.Edge{From: 1, Label: i, To: 0})
	}
	for i := range from {
		edges = append(edges, api.Edge{From: 0, Label: to + i, To: 2})
	}
	for i := range around {
		edges = append(edges, api.Edge{From: 0, Label: to + from + i, To: 0})
	}
	return samples.Made(256, 3, edges)
}

// sparse returns graphs with few more edges than states, which have many higher graphs.
func sparse(seed int64) []api.Graph {
	r := rand.New(rand.NewSource(seed))
	var list []api.Graph
	for range 300 {
		states := 1 + r.Intn(12)
		list = append(list, samples.Random(r, 1+r.Intn(3), states, states+r.Intn(4)), samples.Deterministic(r, 2, states, 0.4+0.1*r.Float64()))
	}
	return list
}

// P16.1: higher graphs of all kinds of graphs, by the definition.
func TestHigher(t *testing.T) {
	count := map[api.Errno]int{}
	for _, g := range slices.Concat(tiny(), small(1), sparse(2)) {
		for _, n := range []int{0, 1, 2, 3, 4, 5, 6, 15, 16} {
			count[checkHigher(t, g, n)]++
		}
	}
	for _, g := range large(3) {
		for n := range 4 {
			count[checkHigher(t, g, n)]++
		}
	}
	if count[api.OK] < 5000 || count[api.ErrLimit] < 1000 {
		t.Errorf("P16.1: the graphs are too easy: %v", count)
	}
}

// P16.1: the chapter's example, and other known higher graphs.
func TestKnownHigherGraphs(t *testing.T) {
	for _, c := range []struct {
		g    api.Graph
		n    int
		want api.Graph
	}{
		// The edges of the even shift are 0 -0-> 1, 0 -1-> 0 and 1 -0-> 0.
		{samples.Even(), 1, samples.Of(2, 3, 0, 0, 2, 1, 0, 0, 1, 1, 1, 2, 0, 0, 2, 1, 1)},
		{samples.Golden(), 1, samples.Of(2, 3, 0, 0, 0, 0, 1, 1, 1, 0, 2, 2, 0, 0, 2, 1, 1)},
		{samples.Golden(), 0, samples.Golden()}, {samples.Of(2, 0), 16, samples.Of(2, 0)}, {samples.Of(2, 64), 0, samples.Of(2, 64)}, {samples.Of(2, 64), 1, samples.Of(2, 0)}, {samples.Of(2, 64), 16, samples.Of(2, 0)},
		{samples.Cycles(5), 16, samples.Cycles(5)}, {samples.Cycles(64), 16, samples.Cycles(64)}, {samples.Whole(2), 1, samples.Of(2, 2, 0, 0, 0, 0, 1, 1, 1, 0, 0, 1, 1, 1)}, {samples.Line(1, 64), 16, samples.Line(1, 48)}, {samples.Line(1, 17), 16, samples.Of(1, 1)}, {samples.Line(1, 16), 16, samples.Of(1, 0)},
		// Different edges with equal labels from a state.
		{samples.Of(1, 2, 0, 0, 0, 0, 0, 1, 1, 0, 1), 1, samples.Of(1, 3, 0, 0, 0, 0, 0, 1, 1, 0, 2, 2, 0, 2)},
		// Different edges between the same states.
		{samples.Of(2, 2, 0, 0, 1, 0, 1, 1, 1, 1, 0), 1, samples.Of(2, 3, 0, 1, 2, 1, 1, 2, 2, 0, 0, 2, 1, 1)},
	} {
		if h := higherOf(t, c.g, c.n); !graph.Same(h, c.want) {
			t.Errorf("P16.1: Higher %v, %d: %v, not %v", c.g, c.n, h, c.want)
		}
	}
}

// P16.1: higher graphs with exactly as many states and edges as there may be, and with more; too many states of a lesser one, even if there are no longer paths.
func TestHigherLimits(t *testing.T) {
	for _, c := range []struct {
		g                api.Graph
		n, states, edges int
		e                api.Errno
	}{
		{samples.Grid(16, 64), 0, 64, 1024, api.OK}, {samples.Grid(16, 64), 1, 0, 0, api.ErrLimit}, {samples.Grid(1, 64), 16, 64, 64, api.OK}, {samples.Whole(64), 0, 1, 64, api.OK}, {samples.Whole(32), 1, 32, 1024, api.OK}, {samples.Whole(33), 1, 0, 0, api.ErrLimit}, {samples.Whole(8), 2, 64, 512, api.OK}, {samples.Whole(8), 3, 0, 0, api.ErrLimit}, {samples.Whole(2), 6, 64, 128, api.OK}, {samples.Whole(2), 7, 0, 0, api.ErrLimit}, {samples.Whole(1), 16, 1, 1, api.OK},
		{crossing(32, 32, 0), 1, 64, 1024, api.OK}, {crossing(23, 39, 2), 1, 0, 0, api.ErrLimit}, {crossing(33, 31, 0), 1, 64, 1023, api.OK}, {crossing(33, 32, 0), 1, 0, 0, api.ErrLimit}, {crossing(64, 0, 0), 1, 64, 0, api.OK}, {crossing(65, 0, 0), 1, 0, 0, api.ErrLimit}, {crossing(65, 0, 0), 2, 0, 0, api.ErrLimit}, {crossing(65, 0, 0), 0, 3, 65, api.OK}, {crossing(30, 2, 0), 16, 0, 0, api.OK},
		{crossing(8, 8, 0), 1, 16, 64, api.OK}, {crossing(8, 8, 0), 2, 64, 0, api.OK}, {crossing(8, 8, 0), 3, 0, 0, api.OK}, {crossing(5, 13, 0), 1, 18, 65, api.OK}, {crossing(5, 13, 0), 2, 0, 0, api.ErrLimit}, {crossing(5, 13, 0), 3, 0, 0, api.ErrLimit}, {crossing(5, 13, 0), 16, 0, 0, api.ErrLimit}, {crossing(40, 30, 0), 3, 0, 0, api.ErrLimit}, {crossing(32, 32, 0), 2, 0, 0, api.ErrLimit}, {crossing(32, 32, 0), 3, 0, 0, api.ErrLimit},
	} {
		h, e := power.Higher(c.g, c.n)
		if e != c.e || h.States != c.states || len(h.Edges) != c.edges {
			t.Errorf("P16.1: Higher of %d edges, %d: %d states, %d edges, %d, not %d, %d, %d", len(c.g.Edges), c.n, h.States, len(h.Edges), e, c.states, c.edges, c.e)
		}
		checkHigher(t, c.g, c.n)
	}
}

// P16.7: a higher graph has as many edges as the next one has states, and the words of the graph, if this is essential.
func TestWordsOfHigherGraphs(t *testing.T) {
	compared := 0
	for _, g := range slices.Concat(tiny(), small(4), sparse(5), large(6)) {
		ess := isEssential(g)
		for n := 0; n < 8; n++ {
			h, e := power.Higher(g, n)
			if e != api.OK {
				break
			}
			if next, e := power.Higher(g, n+1); e == api.OK && next.States != len(h.Edges) {
				t.Fatalf("P16.7: Higher %v, %d: %d edges, but the next one has %d states", g, n, len(h.Edges), next.States)
			}
			if !ess {
				continue
			}
			w, is, e := minimal.Equal(g, h)
			if e != api.ErrLimit && (e != api.OK || !is) {
				t.Fatalf("P16.7: Higher %v, %d: %v, %t, %d", g, n, w, is, e)
			}
			if e == api.OK && n > 0 {
				compared++
			}
		}
	}
	if compared < 500 {
		t.Errorf("P16.7: only %d higher graphs were compared", compared)
	}
}

// P16.7: a higher graph of a higher graph is the one with the sum of both numbers.
func TestHigherGraphsOfHigherGraphs(t *testing.T) {
	for _, g := range slices.Concat(tiny(), sparse(7)) {
		for m := range 5 {
			h, e := power.Higher(g, m)
			for n := 0; e == api.OK && n < 4; n++ {
				one, f := power.Higher(h, n)
				if other, e := power.Higher(g, m+n); e != f || !graph.Same(one, other) {
					t.Fatalf("P16.7: Higher %v, %d, and of this %d: %v, %d, not %v, %d", g, m, n, one, f, other, e)
				}
			}
		}
	}
}
