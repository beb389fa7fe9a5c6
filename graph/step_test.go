package graph_test

import (
	"math"
	"math/rand"
	"slices"
	"testing"

	"groove/api"
	"groove/graph"
)

// outOf returns the indices of the edges that leave a state, by the definition.
func outOf(g api.Graph, s int) []int {
	var list []int
	for i, edge := range g.Edges {
		if edge.From == s {
			list = append(list, i)
		}
	}
	return list
}

// P9.1: the edges that leave each state, against the definition; numbers that are no states.
func TestOut(t *testing.T) {
	for _, g := range samples(61) {
		for s := range g.States {
			if l, e := graph.Out(g, s); e != api.OK || !slices.Equal(l, outOf(g, s)) {
				t.Fatalf("P9.1: Out %v, %d: %v, %d", g, s, l, e)
			}
		}
		for _, s := range noStates(g) {
			if s >= 0 && s < g.States {
				continue
			}
			if l, e := graph.Out(g, s); e != api.ErrState || len(l) > 0 {
				t.Fatalf("P9.1: Out %v, %d: %v, %d", g, s, l, e)
			}
		}
	}
}

// leads returns the set of the states to which edges with a label lead from a set, by the definition.
func leads(g api.Graph, set []int, label int) []int {
	var to []int
	for s := range g.States {
		if slices.ContainsFunc(g.Edges, func(edge api.Edge) bool {
			return edge.To == s && edge.Label == label && slices.Contains(set, edge.From)
		}) {
			to = append(to, s)
		}
	}
	return to
}

// P9.1: steps of the empty set, of all states, of single states and of other sets, against the definition.
func TestStep(t *testing.T) {
	r := rand.New(rand.NewSource(62))
	for _, g := range samples(63) {
		sets := [][]int{nil, {}, all(g), randomSet(r, g), randomSet(r, g)}
		if g.States > 0 {
			sets = append(sets, []int{0}, []int{g.States - 1}, []int{r.Intn(g.States)})
		}
		for _, set := range sets {
			for _, label := range []int{0, g.Labels / 2, g.Labels - 1, r.Intn(g.Labels)} {
				if to := stepOf(t, g, set, label); !slices.Equal(to, leads(g, set, label)) {
					t.Fatalf("P9.1: Step %v, %v, %d: %v", g, set, label, to)
				}
			}
		}
	}
}

// P9.1: known steps.
func TestKnownSteps(t *testing.T) {
	g := of(3, 4, 0, 0, 1, 0, 0, 3, 0, 1, 0, 1, 0, 3, 2, 0, 0, 2, 2, 2, 3, 1, 1)
	for _, c := range []struct {
		set   []int
		label int
		want  []int
	}{
		{nil, 0, nil}, {[]int{0}, 0, []int{1, 3}}, {[]int{0}, 1, []int{0}}, {[]int{0}, 2, nil}, {[]int{1}, 0, []int{3}}, {[]int{1}, 1, nil}, {[]int{2}, 2, []int{2}}, {[]int{3}, 1, []int{1}},
		{[]int{0, 1}, 0, []int{1, 3}}, {[]int{1, 2}, 0, []int{0, 3}}, {[]int{0, 3}, 1, []int{0, 1}}, {[]int{0, 1, 2, 3}, 0, []int{0, 1, 3}}, {[]int{0, 1, 2, 3}, 2, []int{2}}, {[]int{0, 1, 3}, 2, nil},
	} {
		if to := stepOf(t, g, c.set, c.label); !slices.Equal(to, c.want) {
			t.Errorf("P9.1: Step %v, %d: %v", c.set, c.label, to)
		}
	}
}

// checkSet checks the error of a list that is no set of states, whatever the label is, and that there is no result beside it.
func checkSet(t *testing.T, g api.Graph, set []int, want api.Errno) {
	t.Helper()
	for _, label := range []int{0, g.Labels - 1, g.Labels, -1, math.MaxInt, math.MinInt} {
		if l, e := graph.Step(g, set, label); e != want || len(l) > 0 {
			t.Errorf("P9.1: Step %v, %v, %d: %v, %d", g, set, label, l, e)
		}
	}
	if p, e := graph.Keep(g, set); e != want || !isZero(p) {
		t.Errorf("P9.1: Keep %v, %v: %v, %d", g, set, p, e)
	}
}

// P9.1: lists that are no sets: with numbers that are no states, and without order, and with both, of which the first one counts.
func TestErrorsOfSets(t *testing.T) {
	for _, g := range []api.Graph{golden(), of(1, 5, 0, 0, 0, 4, 0, 4), of(256, 7)} {
		for _, s := range noStates(g) {
			for _, set := range [][]int{{s}, {0, s}, {0, 1, s}, {s, 0, 1}, {0, s, 1}, {s, s}, {1, s, 0}, {s, 1, 0}, {s, 1, 1}} {
				checkSet(t, g, set, api.ErrState)
			}
			for _, set := range [][]int{{1, 0, s}, {0, 0, s}, {0, 1, 1, s}} {
				checkSet(t, g, set, api.ErrOrder)
			}
		}
		last := g.States - 1
		for _, set := range [][]int{{0, 0}, {1, 0}, {last, last}, {last, 0}, {0, 1, 0}, {0, 1, 1}, {1, 0, 1}, {0, last, last - 1}} {
			checkSet(t, g, set, api.ErrOrder)
		}
	}
	for _, s := range []int{0, 1, -1, 64, math.MaxInt} {
		checkSet(t, of(3, 0), []int{s}, api.ErrState)
		checkSet(t, of(3, 0), []int{s, s}, api.ErrState)
	}
	g := full()
	checkSet(t, g, []int{63, 64}, api.ErrState)
	checkSet(t, g, append(all(g), 64), api.ErrState)
	checkSet(t, g, append(all(g), 63), api.ErrOrder)
	checkSet(t, g, slices.Repeat([]int{5}, 100000), api.ErrOrder)
}

// P9.1: labels out of range, for sets that are valid, the empty one among them.
func TestErrorsOfLabels(t *testing.T) {
	for _, g := range known() {
		for _, label := range noLabels(g) {
			if label >= 0 && label < g.Labels {
				continue
			}
			for _, set := range [][]int{nil, all(g)} {
				if l, e := graph.Step(g, set, label); e != api.ErrRange || len(l) > 0 {
					t.Errorf("P9.1: Step %v, %v, %d: %v, %d", g, set, label, l, e)
				}
			}
		}
	}
}

// P9.3: the edges of the reversed graph, by the definition; reversing twice changes nothing.
func TestReverse(t *testing.T) {
	for _, g := range samples(64) {
		r := reverseOf(t, g)
		if r.Labels != g.Labels || r.States != g.States || len(r.Edges) != len(g.Edges) || !isValid(r) {
			t.Fatalf("P9.3: Reverse %v: %v", g, r)
		}
		turned := map[api.Edge]bool{}
		for _, edge := range r.Edges {
			turned[edge] = true
		}
		for _, edge := range g.Edges {
			if !turned[api.Edge{From: edge.To, Label: edge.Label, To: edge.From}] {
				t.Fatalf("P9.3: Reverse %v has not turned %v", g, edge)
			}
		}
		if back := reverseOf(t, r); !graph.Same(back, g) {
			t.Fatalf("P9.3: Reverse twice %v: %v", g, back)
		}
	}
}

// P9.3: known reversed graphs.
func TestKnownReversed(t *testing.T) {
	for _, c := range []struct{ g, want api.Graph }{
		{golden(), of(2, 2, 0, 0, 0, 0, 0, 1, 1, 1, 0)}, {of(1, 0), of(1, 0)}, {of(3, 2, 1, 1, 1), of(3, 2, 1, 1, 1)}, {of(3, 2, 0, 2, 1), of(3, 2, 1, 2, 0)},
		{of(2, 3, 0, 0, 1, 0, 0, 2, 0, 1, 2, 1, 0, 0, 2, 1, 0), of(2, 3, 0, 0, 1, 0, 1, 2, 1, 0, 0, 2, 0, 0, 2, 1, 0)},
		{line(64, false), line(64, true)}, {line(5, true), line(5, false)},
	} {
		if r := reverseOf(t, c.g); !graph.Same(r, c.want) {
			t.Errorf("P9.3: Reverse %v: %v", c.g, r)
		}
	}
}

// P9.3: a step leads from one state to another one exactly if the step of the reversed graph leads back.
func TestReversedSteps(t *testing.T) {
	for _, g := range append(subgraphs(2, 2), known()[:14]...) {
		r := reverseOf(t, g)
		for label := range min(g.Labels, 20) {
			back := make([][]int, g.States)
			for to := range g.States {
				back[to] = stepOf(t, r, []int{to}, label)
			}
			for from := range g.States {
				forth := stepOf(t, g, []int{from}, label)
				for to := range g.States {
					if slices.Contains(forth, to) != slices.Contains(back[to], from) {
						t.Fatalf("P9.3: steps of %v with %d between %d and %d", g, label, from, to)
					}
				}
			}
		}
	}
}

// P9.6: graphs are deterministic exactly if no two edges have the same start and label, and exactly if no step from a single state has two results.
func TestDeterministic(t *testing.T) {
	several := 0
	for _, g := range samples(65) {
		seen := map[[2]int]bool{}
		want := true
		for _, edge := range g.Edges {
			key := [2]int{edge.From, edge.Label}
			want = want && !seen[key]
			seen[key] = true
		}
		is := deterministicOf(t, g)
		if is != want {
			t.Fatalf("P9.6: Deterministic %v: %v", g, is)
		}
		single := true
		for key := range seen {
			single = single && len(stepOf(t, g, []int{key[0]}, key[1])) == 1
		}
		if is != single {
			t.Fatalf("P9.6: steps of %v: %v", g, single)
		}
		if !is {
			several++
		}
	}
	if several < 100 {
		t.Errorf("P9.6: %d graphs are not deterministic", several)
	}
}

// P9.6: known graphs: equal starts alone, equal labels alone, and both, in the first and in the last edges.
func TestKnownDeterministic(t *testing.T) {
	for _, c := range []struct {
		g    api.Graph
		want bool
	}{
		{of(1, 0), true}, {of(5, 5), true}, {golden(), true}, {of(2, 1, 0, 0, 0, 0, 1, 0), true}, {of(1, 3, 0, 0, 2, 1, 0, 2, 2, 0, 2), true}, {of(2, 2, 0, 1, 0, 1, 1, 0), true},
		{of(1, 2, 0, 0, 0, 0, 0, 1), false}, {of(2, 3, 0, 0, 0, 0, 1, 0, 1, 1, 1, 1, 1, 2), false}, {of(2, 3, 0, 0, 0, 0, 0, 2, 0, 1, 1), false}, {of(256, 64, 63, 255, 0, 63, 255, 63), false},
		{full(), true}, {with(line(64, false), 63, 0, 0), true}, {with(line(64, false), 62, 0, 0), false},
	} {
		if is := deterministicOf(t, c.g); is != c.want {
			t.Errorf("P9.6: Deterministic %v: %v", c.g, is)
		}
	}
}

// P9.6: parts of deterministic graphs are deterministic.
func TestDeterministicParts(t *testing.T) {
	r := rand.New(rand.NewSource(66))
	for range 500 {
		g := randomDeterministic(r, 1+r.Intn(4), 1+r.Intn(12), 0.3+0.7*r.Float64())
		p, _ := essentialOf(t, g)
		if !deterministicOf(t, g) || !deterministicOf(t, p) || !deterministicOf(t, keepOf(t, g, randomSet(r, g))) {
			t.Fatalf("P9.6: parts of %v", g)
		}
	}
}
