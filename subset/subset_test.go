package subset_test

import (
	"math/rand"
	"slices"
	"testing"

	"groove/api"
	"groove/graph"
	"groove/samples"
	"groove/subset"
)

// checkSets checks a graph of sets from a set on: that its states are different sets, that its edges lead to the states that Step returns, and that the sets are numbered in the order in which they are found.
func checkSets(t *testing.T, g, h api.Graph, first []int, sets [][]int) {
	t.Helper()
	if graph.Check(h) != api.OK || h.Labels != g.Labels || h.States != len(sets) || len(sets) == 0 || !slices.Equal(sets[0], first) {
		t.Fatalf("P12.2: the graph of sets of %v from %v on: %v, %v", g, first, h, sets)
	}
	numbers := map[string]int{}
	for i, set := range sets {
		if _, is := numbers[samples.Key(set)]; is || len(set) == 0 || !slices.IsSorted(set) {
			t.Fatalf("P12.2: the sets of %v from %v on: %v", g, first, sets)
		}
		numbers[samples.Key(set)] = i
	}
	var want []api.Edge
	found := 1
	for i, set := range sets {
		if i >= found {
			t.Fatalf("P12.2: the set %v of %v from %v on is not reached by those before it", set, g, first)
		}
		for label := range g.Labels {
			to := stepOf(t, g, set, label)
			if len(to) == 0 {
				continue
			}
			n, is := numbers[samples.Key(to)]
			if !is || n > found {
				t.Fatalf("P12.2: the set %v of %v from %v on is found as number %d: %v", to, g, first, found, sets)
			}
			found = max(found, n+1)
			want = append(want, api.Edge{From: i, Label: label, To: n})
		}
	}
	if !slices.Equal(h.Edges, want) || len(sets) > api.MaxState || len(want) > api.MaxEdge {
		t.Fatalf("P12.2: the graph of sets of %v from %v on: %v, not %v", g, first, h.Edges, want)
	}
	if is, e := graph.Deterministic(h); e != api.OK || !is {
		t.Errorf("P12.2: the graph of sets of %v from %v on is not deterministic: %v", g, first, h)
	}
}

// stepOf returns what Step returns; for the larger graphs, where Step takes long, by its definition.
func stepOf(t *testing.T, g api.Graph, set []int, label int) []int {
	t.Helper()
	to := samples.Step(g, set, label)
	if len(g.Edges) > 100 && label != 0 {
		return to
	}
	if want, e := graph.Step(g, set, label); e != api.OK || !slices.Equal(to, want) {
		t.Fatalf("P12.2: Step %v, %v, %d: %v, %d, not %v", g, set, label, want, e, to)
	}
	return to
}

// sizes returns how many sets are reached from a set on, and how many edges lead on from them; it stops above the limits.
func sizes(g api.Graph, first []int) (int, int) {
	found, edges := map[string]bool{samples.Key(first): true}, 0
	queue := [][]int{first}
	for len(queue) > 0 && len(found) <= api.MaxState && edges <= api.MaxEdge {
		for label := range g.Labels {
			to := samples.Step(g, queue[0], label)
			if len(to) == 0 {
				continue
			}
			edges++
			if !found[samples.Key(to)] {
				found[samples.Key(to)] = true
				queue = append(queue, to)
			}
		}
		queue = queue[1:]
	}
	return len(found), edges
}

// checkFrom checks the graph of sets from a set on, or that there is no result if it exceeds a limit. It returns whether there is one.
func checkFrom(t *testing.T, g api.Graph, first []int) bool {
	t.Helper()
	states, edges := sizes(g, first)
	h, sets, e := subset.From(g, first)
	if states > api.MaxState || edges > api.MaxEdge {
		if e != api.ErrLimit || !isZero(h) || len(sets) > 0 {
			t.Fatalf("P12.1: From %v, %v: %v, %v, %d", g, first, h, sets, e)
		}
		return false
	}
	if e != api.OK {
		t.Fatalf("P12.1: From %v, %v: %d", g, first, e)
	}
	checkSets(t, g, h, first, sets)
	return true
}

// checkBuild checks that Build is From all states on.
func checkBuild(t *testing.T, g api.Graph) {
	t.Helper()
	h, sets, e := subset.Build(g)
	if g.States == 0 {
		if e != api.OK || !graph.Same(h, g) || len(sets) > 0 {
			t.Fatalf("P12.1: Build %v: %v, %v, %d", g, h, sets, e)
		}
		return
	}
	k, want, f := subset.From(g, samples.All(g))
	if e != f || !graph.Same(h, k) || !isSame(sets, want) {
		t.Fatalf("P12.2: Build %v: %v, %v, %d, not %v, %v, %d", g, h, sets, e, k, want, f)
	}
}

// P12.1: the chapter's example, and graphs with known sets.
func TestKnown(t *testing.T) {
	list := []struct {
		g     api.Graph
		first []int
		h     api.Graph
		sets  [][]int
	}{
		{samples.Even(), []int{0, 1}, samples.Of(2, 3, 0, 0, 0, 0, 1, 1, 1, 0, 2, 1, 1, 1, 2, 0, 1), [][]int{{0, 1}, {0}, {1}}},
		{samples.Even(), []int{1}, samples.Of(2, 2, 0, 0, 1, 1, 0, 0, 1, 1, 1), [][]int{{1}, {0}}},
		{samples.Golden(), []int{0, 1}, samples.Of(2, 3, 0, 0, 1, 0, 1, 2, 1, 0, 1, 1, 1, 2, 2, 0, 1), [][]int{{0, 1}, {0}, {1}}},
		{samples.Of(3, 1), []int{0}, samples.Of(3, 1), [][]int{{0}}},
		{samples.Of(3, 4), []int{1, 3}, samples.Of(3, 1), [][]int{{1, 3}}},
		{samples.Whole(2), []int{0}, samples.Whole(2), [][]int{{0}}},
		// Several edges with one label from a state; the greater label finds its set later.
		{samples.Of(2, 3, 0, 0, 1, 0, 0, 2, 0, 1, 2), []int{0}, samples.Of(2, 3, 0, 0, 1, 0, 1, 2), [][]int{{0}, {1, 2}, {2}}},
		// The sets of the first set come before those of the second one, whatever the labels; the first set is found again.
		{samples.Of(3, 5, 0, 1, 1, 0, 2, 2, 1, 2, 3, 2, 0, 4, 3, 0, 0, 4, 1, 0, 4, 0, 4), []int{0}, samples.Of(3, 5, 0, 1, 1, 0, 2, 2, 1, 2, 3, 2, 0, 4, 3, 0, 0, 4, 0, 4, 4, 1, 0), [][]int{{0}, {1}, {2}, {3}, {4}}},
		{samples.Of(256, 64, 63, 255, 0, 63, 255, 63, 0, 0, 5), []int{7, 63}, samples.Of(256, 3, 0, 255, 1, 1, 0, 2, 1, 255, 1), [][]int{{7, 63}, {0, 63}, {5}}},
		{samples.Line(1, 3), []int{0, 1, 2}, samples.Of(1, 3, 0, 0, 1, 1, 0, 2), [][]int{{0, 1, 2}, {1, 2}, {2}}},
	}
	for _, c := range list {
		if h, sets := fromOf(t, c.g, c.first); !graph.Same(h, c.h) || !isSame(sets, c.sets) {
			t.Errorf("P12.1: From %v, %v: %v, %v, not %v, %v", c.g, c.first, h, sets, c.h, c.sets)
		}
		if h, sets := buildOf(t, c.g); len(c.first) == c.g.States && (!graph.Same(h, c.h) || !isSame(sets, c.sets)) {
			t.Errorf("P12.1: Build %v: %v, %v, not %v, %v", c.g, h, sets, c.h, c.sets)
		}
	}
	for _, labels := range []int{1, 2, 17, 256} {
		checkBuild(t, samples.Of(labels, 0))
	}
}

// P12.2: the sets of all small graphs from all sets on, and those of large ones.
func TestSets(t *testing.T) {
	for _, g := range small(1) {
		for _, first := range subsets(g) {
			checkFrom(t, g, first)
		}
		checkBuild(t, g)
	}
	r := rand.New(rand.NewSource(2))
	there := map[bool]int{}
	for _, g := range large(2) {
		checkBuild(t, g)
		if g.States == 0 {
			continue
		}
		there[checkFrom(t, g, samples.All(g))]++
		for range 5 {
			there[checkFrom(t, g, randomSet(r, g))]++
			there[checkFrom(t, g, []int{r.Intn(g.States)})]++
		}
	}
	if there[true] < 50 || there[false] < 50 {
		t.Errorf("P12.2: the samples are too easy, or too large: %v", there)
	}
}

// P12.2: the sets are numbered as they are met when all lists of labels are followed, by length, then lexicographically.
func TestOrder(t *testing.T) {
	for _, g := range small(3) {
		if g.States == 0 || g.States > 3 {
			continue
		}
		var met [][]int
		for n := range 1 << g.States {
			for _, labels := range samples.Lists(g.Labels, n) {
				set := samples.Ends(g, samples.All(g), labels)
				if len(set) > 0 && !slices.ContainsFunc(met, func(other []int) bool { return slices.Equal(set, other) }) {
					met = append(met, set)
				}
			}
		}
		if _, sets := buildOf(t, g); !isSame(sets, met) {
			t.Errorf("P12.2: Build %v: %v, not %v", g, sets, met)
		}
	}
}

// P12.3: from the state 0, a graph of sets has the words of the set at the beginning, and they lead to the set of their ends.
func TestWords(t *testing.T) {
	r := rand.New(rand.NewSource(4))
	for _, g := range small(4) {
		for _, first := range subsets(g) {
			if r.Intn(5) == 0 {
				h, sets := fromOf(t, g, first)
				for n := range 5 {
					for _, labels := range samples.Lists(g.Labels, n) {
						checkWord(t, g, h, sets, labels)
					}
				}
			}
		}
	}
	for _, g := range large(5) {
		if g.States == 0 {
			continue
		}
		for range 3 {
			first := randomSet(r, g)
			if h, sets, e := subset.From(g, first); e == api.OK {
				checkWord(t, g, h, sets, walk(r, g, first, 100))
				checkWord(t, g, h, sets, append(walk(r, g, first, r.Intn(10)), r.Intn(g.Labels)))
			}
		}
	}
}

// walk returns the labels of some path of g from a state of a set, with at most n edges.
func walk(r *rand.Rand, g api.Graph, set []int, n int) []int {
	var labels []int
	s := set[r.Intn(len(set))]
	for range n {
		out, _ := graph.Out(g, s)
		if len(out) == 0 {
			break
		}
		edge := g.Edges[out[r.Intn(len(out))]]
		labels, s = append(labels, edge.Label), edge.To
	}
	return labels
}

// checkWord checks where a list of labels leads to in a graph of sets.
func checkWord(t *testing.T, g, h api.Graph, sets [][]int, labels []int) {
	t.Helper()
	want, to := samples.Ends(g, sets[0], labels), samples.Ends(h, []int{0}, labels)
	if len(want) == 0 && len(to) == 0 {
		return
	}
	if len(to) != 1 || !slices.Equal(sets[to[0]], want) {
		t.Fatalf("P12.3: %v leads from %v to %v in %v, but from 0 to %v in %v, with the sets %v", labels, sets[0], want, g, to, h, sets)
	}
}
