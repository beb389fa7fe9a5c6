package subset_test

import (
	"math/rand"
	"slices"
	"testing"

	"groove/api"
	"groove/graph"
	"groove/samples"
)

// checkComplete checks the completed automaton of a deterministic graph: that it goes where the edges go, and that it never stops.
func checkComplete(t *testing.T, g api.Graph) {
	t.Helper()
	a, sink := completeOf(t, g)
	number := g.States
	missing := len(g.Edges) < g.States*g.Labels
	if missing {
		number++
	}
	if a.Letters != g.Labels || len(a.Next) != number || missing != slices.Equal(sink, []int{g.States}) || !missing && len(sink) > 0 {
		t.Fatalf("P12.6: Complete %v: %v, %v", g, a, sink)
	}
	var edges []api.Edge
	for s, row := range a.Next {
		if len(row) != g.Labels {
			t.Fatalf("P12.6: Complete %v: %v, %v", g, a, sink)
		}
		for label, to := range row {
			if to < 0 || to >= number || s == g.States && to != g.States {
				t.Fatalf("P12.6: Complete %v: %v, %v", g, a, sink)
			}
			if s < g.States && to < g.States {
				edges = append(edges, api.Edge{From: s, Label: label, To: to})
			}
		}
	}
	if !slices.Equal(edges, g.Edges) {
		t.Fatalf("P12.6: Complete %v: %v is another graph without the state %v", g, a, sink)
	}
}

// P12.6: the completed automata of all deterministic graphs among the samples, and of graphs of sets.
func TestComplete(t *testing.T) {
	for _, g := range slices.Concat(small(11), large(12)) {
		if is, _ := graph.Deterministic(g); is {
			checkComplete(t, g)
		}
	}
	for _, g := range small(13) {
		h, _ := buildOf(t, g)
		checkComplete(t, h)
	}
}

// P12.6: graphs that lack no edge, one edge, or all edges, with as many states, labels and edges as there may be.
func TestMissingEdges(t *testing.T) {
	r := rand.New(rand.NewSource(14))
	for _, size := range [][2]int{{1, 1}, {1, 64}, {2, 1}, {2, 2}, {3, 7}, {16, 64}, {256, 1}, {256, 4}} {
		g := samples.Deterministic(r, size[0], size[1], 0)
		checkComplete(t, g)
		if _, sink := completeOf(t, g); len(sink) > 0 {
			t.Errorf("P12.6: Complete %v: %v, but it lacks no edge", size, sink)
		}
		for _, i := range []int{0, len(g.Edges) / 2, len(g.Edges) - 1} {
			lacking := g
			lacking.Edges = slices.Delete(slices.Clone(g.Edges), i, i+1)
			checkComplete(t, lacking)
			if a, _ := completeOf(t, lacking); a.Next[g.Edges[i].From][g.Edges[i].Label] != size[1] {
				t.Errorf("P12.6: Complete %v without the edge %v goes to another state", size, g.Edges[i])
			}
		}
		checkComplete(t, samples.Of(size[0], size[1]))
	}
	checkComplete(t, samples.Of(256, 64))
}

// P12.6: known automata; one without states has no further state.
func TestKnownAutomata(t *testing.T) {
	list := []struct {
		g    api.Graph
		next [][]int
		sink []int
	}{
		{samples.Golden(), [][]int{{0, 1}, {0, 2}, {2, 2}}, []int{2}},
		{samples.Even(), [][]int{{1, 0}, {0, 2}, {2, 2}}, []int{2}},
		{samples.With(samples.Golden(), 1, 2, 1), [][]int{{0, 1}, {0, 1}}, nil},
		{samples.Of(3, 1), [][]int{{1, 1, 1}, {1, 1, 1}}, []int{1}},
		{samples.Of(2, 2, 0, 1, 0, 1, 0, 1), [][]int{{2, 0}, {1, 2}, {2, 2}}, []int{2}},
		{samples.Cycles(3), [][]int{{1}, {2}, {0}}, nil}, {samples.Line(1, 3), [][]int{{1}, {2}, {3}, {3}}, []int{3}},
		{samples.Of(1, 0), nil, nil}, {samples.Of(256, 0), nil, nil},
	}
	for _, c := range list {
		if a, sink := completeOf(t, c.g); a.Letters != c.g.Labels || !isSame(a.Next, c.next) || !slices.Equal(sink, c.sink) {
			t.Errorf("P12.6: Complete %v: %v, %v, not %v, %v", c.g, a, sink, c.next, c.sink)
		}
	}
}
