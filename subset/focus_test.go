package subset_test

import (
	"slices"
	"strconv"
	"testing"

	"groove/api"
	"groove/samples"
	"groove/subset"
)

// leads returns a function that tells, for a set and a number, whether some list of so many labels leads from the set to a single state. What has been found out is kept.
func leads(g api.Graph) func(set []int, n int) bool {
	known := map[string]bool{}
	var is func(set []int, n int) bool
	is = func(set []int, n int) bool {
		if n == 0 {
			return len(set) == 1
		}
		place := strconv.Itoa(n) + ":" + samples.Key(set)
		if _, done := known[place]; !done {
			known[place] = slices.ContainsFunc(samples.All(api.Graph{States: g.Labels}), func(label int) bool { return is(samples.Step(g, set, label), n-1) })
		}
		return known[place]
	}
	return is
}

// firstFocus returns the first focus by the definition, and whether there is one of fewer than n labels: the least number of labels first, and then the least label with which it can be gone on.
func firstFocus(g api.Graph, n int) ([]int, bool) {
	is := leads(g)
	for length := range n {
		if !is(samples.All(g), length) {
			continue
		}
		var focus []int
		for set := samples.All(g); len(focus) < length; {
			label := 0
			for !is(samples.Step(g, set, label), length-len(focus)-1) {
				label++
			}
			focus, set = append(focus, label), samples.Step(g, set, label)
		}
		return focus, true
	}
	return nil, false
}

// P12.4: the chapter's example, and graphs with known foci.
func TestKnownFoci(t *testing.T) {
	list := []struct {
		g     api.Graph
		focus []int
		s     int
		is    bool
	}{
		{samples.Even(), []int{1}, 0, true},
		{samples.Golden(), []int{0}, 0, true},
		// The list of no labels, even where nothing leads on.
		{samples.Of(1, 1), nil, 0, true}, {samples.Of(256, 1), nil, 0, true}, {samples.Whole(1), nil, 0, true}, {samples.Whole(256), nil, 0, true},
		{samples.Of(2, 0), nil, 0, false}, {samples.Of(2, 2), nil, 0, false}, {samples.Of(256, 64), nil, 0, false},
		{samples.Cycles(2), nil, 0, false}, {samples.Cycles(1, 1), nil, 0, false}, {samples.Cycles(3, 5), nil, 0, false}, {samples.Cycles(64), nil, 0, false},
		{samples.Line(1, 2), []int{0}, 1, true}, {samples.Line(1, 64), slices.Repeat([]int{0}, 63), 63, true}, {samples.Line(1, 63), slices.Repeat([]int{0}, 62), 62, true},
		// A greater label, but a shorter list; equally long lists; the last label alone.
		{samples.Line(2, 32, 5, 1, 9), []int{1}, 9, true}, {samples.Line(3, 5, 0, 1, 3, 1, 1, 4, 2, 2, 2), []int{2}, 2, true}, {samples.Of(3, 2, 0, 1, 1, 1, 2, 0), []int{1}, 1, true}, {samples.Of(256, 64, 40, 255, 41), []int{255}, 41, true},
		{samples.Of(2, 3, 0, 0, 1, 0, 1, 1, 1, 1, 2, 2, 0, 0), []int{0, 0}, 1, true},
		// Only lists of several labels lead to one state: that of 3 states in which 0 leads from 0 to 1, and 1 to the next one.
		{samples.Of(2, 3, 0, 0, 1, 0, 1, 1, 1, 0, 1, 1, 1, 2, 2, 0, 2, 2, 1, 0), []int{0, 1, 1, 0}, 1, true},
		// One state has an edge, but with two ends.
		{samples.Of(1, 3, 0, 0, 1, 0, 0, 2), nil, 0, false},
		{samples.Of(1, 3, 0, 0, 1, 0, 0, 2, 1, 0, 2), []int{0, 0}, 2, true},
	}
	for _, c := range list {
		if focus, s, is := focusOf(t, c.g); !slices.Equal(focus, c.focus) || s != c.s || is != c.is {
			t.Errorf("P12.4: Focus %v: %v, %d, %t, not %v, %d, %t", c.g, focus, s, is, c.focus, c.s, c.is)
		}
	}
}

// P12.4: automata with long first foci: those of Cerny, whose first reset words have (n - 1)^2 letters, of which the subsets are too many for more than 6 states.
func TestLongFoci(t *testing.T) {
	for n := 2; n <= 6; n++ {
		g := samples.Cycles(n)
		g.Labels = 2
		for s := range n {
			g.Edges = append(g.Edges, api.Edge{From: s, Label: 1, To: max(s, 1)})
		}
		g = samples.Made(2, n, g.Edges)
		focus, s, is := focusOf(t, g)
		if !is || len(focus) != (n-1)*(n-1) || !slices.Equal(samples.Ends(g, samples.All(g), focus), []int{s}) {
			t.Errorf("P12.4: Focus of %d states: %v, %d, %t", n, focus, s, is)
		}
	}
}

// P12.4: all paths with a focus end in its state, no list of labels before it is a focus, and there is one exactly if there is a set of one state.
func TestFoci(t *testing.T) {
	for _, g := range slices.Concat(small(6), large(7)) {
		_, sets, e := subset.Build(g)
		if e != api.OK {
			checkLimit(t, "graph", g, e)
			continue
		}
		focus, s, is := focusOf(t, g)
		if is != slices.ContainsFunc(sets, func(set []int) bool { return len(set) == 1 }) {
			t.Fatalf("P12.4: Focus %v: %v, %d, %t, but the sets are %v", g, focus, s, is, sets)
		}
		if is && !slices.Equal(samples.Ends(g, samples.All(g), focus), []int{s}) {
			t.Fatalf("P12.4: Focus %v: %v, %d, but the paths end in %v", g, focus, s, samples.Ends(g, samples.All(g), focus))
		}
		// A list of as many labels as there are sets has met one of them twice, so none of this length is the first.
		if want, there := firstFocus(g, len(sets)); there != is || !slices.Equal(focus, want) {
			t.Fatalf("P12.4: Focus %v: %v, %t, not %v, %t", g, focus, is, want, there)
		}
	}
}
