package subset_test

import (
	"testing"

	"groove/api"
	"groove/samples"
	"groove/subset"
)

// tail returns a cycle of 7 states and one of 9, from both of which sets of one state each are reached at once, by a path of n edges from the last state on.
func tail(n int) api.Graph {
	edges := samples.Cycles(7, 9).Edges
	s := 15 + n
	for range n - 1 {
		edges = append(edges, api.Edge{From: s, To: s - 1})
		s--
	}
	edges = append(edges, api.Edge{From: s, To: 0}, api.Edge{From: s, To: 7})
	return samples.Made(1, 16+n, edges)
}

// P12.1: exactly as many sets as there may be, and one more; exactly as many edges, and one more.
func TestLimits(t *testing.T) {
	list := []struct {
		name          string
		g             api.Graph
		first         []int
		states, edges int
	}{
		{"line", samples.Line(1, 64), nil, 64, 63},
		{"line, to a set that is found again", samples.Line(2, 64, 0, 1, 63), nil, 64, 64},
		{"line, to one more", samples.Line(2, 64, 0, 1, 62), nil, 65, 66},
		{"line, to two more", samples.Line(2, 64, 0, 1, 61), nil, 66, 68},
		{"cycles of 9 and 7", samples.Cycles(9, 7), []int{0, 9}, 63, 63},
		{"a path to them", tail(1), []int{16}, 64, 64},
		{"a longer path to them", tail(2), []int{17}, 65, 65},
		{"cycles of 5 and 13", samples.Cycles(5, 13), []int{0, 5}, 65, 65},
		{"cycle of 64", samples.Cycles(64), []int{3}, 64, 64},
		{"16 labels on a cycle of 64", samples.Grid(16, 64), []int{63}, 64, 1024},
		{"256 labels on a cycle of 4", samples.Grid(256, 4), []int{0}, 4, 1024},
		{"7 sets, 1024 edges", samples.Seven(142, 0, 3), nil, 7, 1024},
		{"7 sets, 1025 edges", samples.Seven(143, 1, 0), nil, 7, 1025},
		{"7 sets, 1023 edges", samples.Seven(143, 0, 1), nil, 7, 1023},
		{"7 sets, many edges", samples.Seven(253, 0, 0), nil, 7, 1789},
	}
	for _, c := range list {
		first := c.first
		if first == nil {
			first = samples.All(c.g)
		}
		want := api.OK
		if c.states > api.MaxState || c.edges > api.MaxEdge {
			want = api.ErrLimit
		}
		h, sets, e := subset.From(c.g, first)
		if e != want || e == api.OK && (h.States != c.states || len(sets) != c.states || len(h.Edges) != c.edges) || e != api.OK && (!isZero(h) || len(sets) > 0) {
			t.Errorf("P12.1: From the %s: %d states, %d sets, %d edges, %d", c.name, h.States, len(sets), len(h.Edges), e)
		}
		checkFrom(t, c.g, first)
		checkBuild(t, c.g)
		if c.first == nil {
			checkLimit(t, c.name, c.g, want)
		}
	}
}

// checkLimit checks that Build, Focus and Count have the same error, and no other result beside it.
func checkLimit(t *testing.T, name string, g api.Graph, want api.Errno) {
	t.Helper()
	if h, sets, e := subset.Build(g); e != want || e != api.OK && (!isZero(h) || len(sets) > 0) {
		t.Errorf("P12.1: Build the %s: %d, %d", name, len(sets), e)
	}
	if focus, s, is, e := subset.Focus(g); e != want || e != api.OK && (len(focus) > 0 || s != 0 || is) {
		t.Errorf("P12.1: Focus of the %s: %v, %d, %t, %d", name, focus, s, is, e)
	}
	for _, n := range []int{0, 1, 2, 100, api.MaxPower} {
		if number, e := subset.Count(g, n); e != want || e != api.OK && number != (api.Int{}) {
			t.Errorf("P12.1: Count of the %s, %d: %d", name, n, e)
		}
	}
	for _, n := range samples.NoNumbers() {
		if number, e := subset.Count(g, n); e != api.ErrRange || number != (api.Int{}) {
			t.Errorf("P12.1: Count of the %s, %d: %d", name, n, e)
		}
	}
}
