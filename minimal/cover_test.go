package minimal_test

import (
	"math/rand"
	"slices"
	"testing"

	"groove/api"
	"groove/component"
	"groove/graph"
	"groove/minimal"
	"groove/samples"
	"groove/subset"
)

// reached returns the states that are reached from a state, in ascending order, itself among them.
func reached(g api.Graph, s int) []int {
	set := []int{s}
	for i := 0; i < len(set); i++ {
		for _, edge := range g.Edges {
			if edge.From == set[i] && !slices.Contains(set, edge.To) {
				set = append(set, edge.To)
			}
		}
	}
	slices.Sort(set)
	return set
}

// isIrreducible returns whether all states of g are reached from each other, by an edge at least.
func isIrreducible(g api.Graph) bool {
	for s := range g.States {
		if len(reached(g, s)) < g.States {
			return false
		}
	}
	return len(g.Edges) > 0
}

// sinkOf returns the only set of states that is reached from each of its states.
func sinkOf(t *testing.T, g api.Graph) []int {
	t.Helper()
	var sinks [][]int
	for s := range g.States {
		set := reached(g, s)
		if slices.ContainsFunc(set, func(u int) bool { return len(reached(g, u)) < len(set) }) || set[0] != s {
			continue
		}
		sinks = append(sinks, set)
	}
	if len(sinks) != 1 {
		t.Fatalf("P13.4: the sinks of %v are %v", g, sinks)
	}
	return sinks[0]
}

// coverBy returns the cover of an irreducible graph, by the definition, and whether there are not too many sets.
func coverBy(t *testing.T, g api.Graph) (api.Graph, bool) {
	t.Helper()
	sets, is := setsOf(g)
	if !is {
		return api.Graph{}, false
	}
	merged := mergedBy(sets, classesOf(apart(sets)))
	sink := sinkOf(t, merged)
	next := arrows(merged)
	order := sink[:1:1]
	var edges []api.Edge
	for i := 0; i < len(order); i++ {
		for label, to := range next[order[i]] {
			if to < 0 {
				continue
			}
			if !slices.Contains(order, to) {
				order = append(order, to)
			}
			edges = append(edges, api.Edge{From: i, Label: label, To: slices.Index(order, to)})
		}
	}
	return samples.Made(g.Labels, len(order), edges), true
}

// checkCover checks the cover of an irreducible graph, or that there is none if there are too many sets. It returns whether there is one.
func checkCover(t *testing.T, g api.Graph) bool {
	t.Helper()
	want, there := coverBy(t, g)
	cover, e := minimal.Cover(g)
	if !there {
		if e != api.ErrLimit || !isZero(cover) {
			t.Fatalf("P13.1: Cover %v: %v, %d", g, cover, e)
		}
		return false
	}
	if e != api.OK || !graph.Same(cover, want) {
		t.Fatalf("P13.4: Cover %v: %v, %d, not %v", g, cover, e, want)
	}
	sets, _, _ := subset.Build(g)
	if merged, _ := mergeOf(t, sets); cover.States > merged.States {
		t.Fatalf("P13.4: Cover %v: %d states, more than %d", g, cover.States, merged.States)
	}
	if merged, _ := mergeOf(t, cover); !graph.Same(merged, cover) {
		t.Fatalf("P13.4: Cover %v: %v is not merged", g, cover)
	}
	if is, f := component.Irreducible(cover); f != api.OK || !is {
		t.Fatalf("P13.4: Cover %v: %v is not irreducible", g, cover)
	}
	again, e := minimal.Cover(cover)
	if e == api.ErrLimit {
		return true
	}
	if e != api.OK || again.States != cover.States {
		t.Fatalf("P13.4: Cover %v: %v, %d, not %d states", cover, again, e, cover.States)
	}
	if word, is := equalOf(t, g, cover); !is {
		t.Fatalf("P13.4: Cover %v: %v has other words: %v", g, cover, word)
	}
	return true
}

// irreducible returns the parts of graphs of all kinds on their components, as far as they are irreducible.
func irreducible(seed int64) []api.Graph {
	r := rand.New(rand.NewSource(seed))
	graphs := slices.Concat(samples.Small(r), samples.Large(r))
	for range 400 {
		states := 3 + r.Intn(6)
		graphs = append(graphs, samples.Random(r, 2, states, 2*states), samples.Random(r, 2, states, states+3), samples.Random(r, 3, states, 2*states), samples.Deterministic(r, 2, states, 0.3))
	}
	var list []api.Graph
	for _, g := range graphs {
		sets, _ := component.Of(g)
		for _, set := range sets {
			if part, _ := graph.Keep(g, set); isIrreducible(part) {
				list = append(list, part)
			}
		}
	}
	return list
}

// P13.4: covers of irreducible graphs of all kinds.
func TestCover(t *testing.T) {
	there := map[bool]int{}
	fewer, more := 0, 0
	for _, g := range irreducible(3) {
		is := checkCover(t, g)
		there[is]++
		if is && coverOf(t, g).States > g.States {
			more++
		}
		if is && coverOf(t, g).States < g.States && coverOf(t, g).States > 1 {
			fewer++
		}
	}
	if there[false] < 50 || there[true] < 500 || fewer < 100 || more < 50 {
		t.Errorf("P13.4: the samples are too easy, or too large: %v, %d with fewer states, %d with more", there, fewer, more)
	}
}

// P13.4: no deterministic graph with fewer states has the words of a cover.
func TestLeast(t *testing.T) {
	least := [][]api.Graph{nil, nil, nil, nil}
	for states := 1; states <= 3; states++ {
		for _, g := range everyMachine(2, states) {
			if isIrreducible(g) {
				least[states] = append(least[states], g)
			}
		}
	}
	checked := 0
	for _, g := range irreducible(4) {
		if g.Labels > 2 || g.States > 4 {
			continue
		}
		cover, e := minimal.Cover(g)
		if e != api.OK || cover.States > 3 {
			continue
		}
		for states := 1; states < cover.States; states++ {
			for _, h := range least[states] {
				if _, is := equalOf(t, cover, h); is && h.Labels == g.Labels {
					t.Fatalf("P13.4: Cover %v: %v, but %v has fewer states", g, cover, h)
				}
			}
		}
		checked++
	}
	if checked < 100 {
		t.Errorf("P13.4: only %d covers are small", checked)
	}
}

// P13.1: known covers, and the order of their states.
func TestKnownCovers(t *testing.T) {
	list := []struct{ g, cover api.Graph }{
		{samples.Golden(), samples.Golden()}, {samples.Even(), samples.Even()}, {samples.Whole(256), samples.Whole(256)}, {samples.Cycles(64), samples.Cycles(1)}, {samples.Grid(16, 64), samples.Whole(16)},
		{samples.Of(2, 2, 0, 0, 1, 0, 1, 0, 1, 0, 0, 1, 1, 1), samples.Whole(2)},
		// The even shift with its states in the other order: the state 0 of the cover is the one in which a label 1 ends.
		{samples.Of(2, 2, 1, 0, 0, 1, 1, 1, 0, 0, 1), samples.Even()},
		// All words, by states between which one can choose.
		{samples.Of(2, 2, 0, 0, 0, 0, 0, 1, 1, 1, 0, 1, 1, 1), samples.Whole(2)},
		// Behind 3 labels 0 a label 1 comes: from the state behind it on.
		{samples.Line(2, 4, 3, 1, 0), samples.Line(2, 4, 3, 1, 0)},
		{samples.Of(2, 4, 0, 0, 3, 3, 1, 2, 2, 0, 1, 1, 0, 0), samples.Line(2, 4, 3, 1, 0)},
		// The set that is found first is not the one to which the least label leads.
		{samples.Of(3, 3, 0, 2, 1, 0, 1, 2, 1, 0, 0, 2, 0, 0, 1, 1, 1), samples.Of(3, 3, 0, 1, 1, 0, 2, 2, 1, 0, 0, 2, 0, 0, 2, 1, 2)},
	}
	for _, c := range list {
		checkCover(t, c.g)
		if cover := coverOf(t, c.g); !graph.Same(cover, c.cover) {
			t.Errorf("P13.4: Cover %v: %v, not %v", c.g, cover, c.cover)
		}
	}
}

// turning returns a graph whose sets are all 7 sets of its 3 states, with 7 edges for one label that turns the states, and for each of some other labels, 6 for 3 others, 6 for each of some and 4 for each of a few.
func turning(everywhere, some, few int) api.Graph {
	g := samples.Seven(everywhere, some, few)
	edges := slices.Clone(g.Edges)
	for s := range 3 {
		edges = append(edges, api.Edge{From: s, Label: g.Labels, To: (s + 1) % 3})
	}
	return samples.Made(g.Labels+1, 3, edges)
}

// P13.1: exactly as many sets and edges as there may be, and one more.
func TestCoverLimits(t *testing.T) {
	list := []struct {
		name          string
		g             api.Graph
		states, edges int
	}{
		{"7 sets, 1024 edges", turning(141, 0, 3), 7, 1024},
		{"7 sets, 1025 edges", turning(142, 1, 0), 7, 1025},
		{"cycle of 32 with a label back", samples.Line(2, 32, 31, 1, 0), 63, 94},
		{"cycle of 33 with a label back", samples.Line(2, 33, 32, 1, 0), 65, 97},
		{"cycle of 23 with two labels back", samples.Line(2, 23, 22, 1, 4, 4, 1, 0), 64, 90},
	}
	for _, c := range list {
		within := c.states <= api.MaxState && c.edges <= api.MaxEdge
		if sets, is := setsOf(c.g); is != within || is && (sets.States != c.states || len(sets.Edges) != c.edges) {
			t.Errorf("P13.1: the sets of the %s are %d, with %d edges", c.name, sets.States, len(sets.Edges))
		}
		if is := checkCover(t, c.g); is != within {
			t.Errorf("P13.1: Cover of the %s: %t", c.name, is)
		}
	}
}
