package memory_test

import (
	"math/rand"
	"slices"
	"testing"

	"groove/api"
	"groove/graph"
	"groove/memory"
	"groove/samples"
	"groove/subset"
)

// P15.2, P15.3: all graphs with at most two states and two labels, by the definitions. There are at most two pairs of different states, and two of equal ones, each of which can be lost by a step: so there is no memory above 4, and no anticipation.
func TestDefinitions(t *testing.T) {
	for _, g := range tiny() {
		m, is := 0, true
		for is && !isMemory(g, m) {
			m, is = m+1, m < 4
		}
		if got, there := memoryOf(t, g); there != is || is && got != m {
			t.Fatalf("P15.2: Memory %v: %d, %t, not %d, %t", g, got, there, m, is)
		}
		a, is := 0, true
		for is && !isAnticipation(g, a) {
			a, is = a+1, a < 4
		}
		if got, there := anticipationOf(t, g); there != is || is && got != a {
			t.Fatalf("P15.3: Anticipation %v: %d, %t, not %d, %t", g, got, there, a, is)
		}
		for n := range 5 {
			for m := range n + 1 {
				if want := isLocal(g, m, n-m); localOf(t, g, m, n-m) != want {
					t.Fatalf("P15.3: Local %v, %d, %d: not %t", g, m, n-m, want)
				}
			}
		}
	}
}

// P15.2, P15.3: greater graphs by the definitions, for few edges.
func TestFewEdges(t *testing.T) {
	for _, g := range small(1) {
		m, is := memoryOf(t, g)
		a, ahead := anticipationOf(t, g)
		for n := range 4 {
			if want := isMemory(g, n); want != (is && n >= m) {
				t.Fatalf("P15.2: Memory %v: %d, %t, but %t for %d", g, m, is, want, n)
			}
			if want := isAnticipation(g, n); want != (ahead && n >= a) {
				t.Fatalf("P15.3: Anticipation %v: %d, %t, but %t for %d", g, a, ahead, want, n)
			}
			for m := range n + 1 {
				if want := isLocal(g, m, n-m); localOf(t, g, m, n-m) != want {
					t.Fatalf("P15.3: Local %v, %d, %d: not %t", g, m, n-m, want)
				}
			}
		}
	}
}

// P15.2, P15.3: any graphs, by the longest paths that lead to pairs of states.
func TestDepths(t *testing.T) {
	met := map[[2]bool]int{}
	highest := [2]int{}
	for _, g := range slices.Concat(small(2), large(3)) {
		m, is := memoryOf(t, g)
		if want, there := memoryBy(g); m != want || is != there {
			t.Fatalf("P15.2: Memory %v: %d, %t, not %d, %t", g, m, is, want, there)
		}
		a, ahead := anticipationOf(t, g)
		if want, there := anticipationBy(g); a != want || ahead != there {
			t.Fatalf("P15.3: Anticipation %v: %d, %t, not %d, %t", g, a, ahead, want, there)
		}
		met[[2]bool{is, ahead}]++
		if g.States <= 5 {
			highest = [2]int{max(highest[0], m), max(highest[1], a)}
		}
	}
	if len(met) < 4 || met[[2]bool{true, true}] < 100 || met[[2]bool{true, false}] < 5 || highest[0] < 4 || highest[1] < 4 {
		t.Errorf("P15.2: the graphs are too easy: %v, %v", met, highest)
	}
}

// P15.2: as many labels as the memory determine the state, and fewer do not: the sets of states that lists of labels lead to.
func TestSetsOfStates(t *testing.T) {
	compared := 0
	for _, g := range slices.Concat(small(4), large(5)) {
		h, sets, e := subset.Build(g)
		if e != api.OK {
			continue
		}
		compared++
		m, is := memoryOf(t, g)
		// A list of as many labels as there are sets leads twice to one of them.
		last := h.States
		if is {
			last = m + 1
		}
		at := []int{0}
		if h.States == 0 {
			at = nil
		}
		for n := range last + 1 {
			several := slices.ContainsFunc(at, func(i int) bool { return len(sets[i]) > 1 })
			if several == (is && n >= m) {
				t.Fatalf("P15.2: Memory %v: %d, %t, but several states behind %d labels: %t", g, m, is, n, several)
			}
			var next []int
			for _, edge := range h.Edges {
				if slices.Contains(at, edge.From) {
					next = append(next, edge.To)
				}
			}
			slices.Sort(next)
			at = slices.Compact(next)
		}
	}
	if compared < 1000 {
		t.Errorf("P15.2: only %d graphs have not too many sets", compared)
	}
}

// P15.3: what is local, by the longest paths that lead to and from pairs of states; graphs with a memory and an anticipation are local for both, and what is local is so for greater numbers.
func TestLocal(t *testing.T) {
	differ := 0
	for _, g := range slices.Concat(small(6), large(7)) {
		numbers := []int{0, 1, 2, 3, 5, 8, 64, 1000, api.MaxPower}
		if len(g.Edges) > 200 {
			numbers = []int{0, 1, 3, api.MaxPower}
		}
		local := localBy(g)
		m, is := memoryOf(t, g)
		a, ahead := anticipationOf(t, g)
		if is && ahead && !localOf(t, g, m, a) {
			t.Fatalf("P15.3: Local %v is false for the memory %d and the anticipation %d", g, m, a)
		}
		seen := map[bool]int{}
		for _, i := range numbers {
			for _, j := range numbers {
				got := localOf(t, g, i, j)
				if got != local(i, j) {
					t.Fatalf("P15.3: Local %v, %d, %d: %t", g, i, j, got)
				}
				if is && ahead && i >= m && j >= a && !got {
					t.Fatalf("P15.3: Local %v is true for %d and %d, but not for %d and %d", g, m, a, i, j)
				}
				seen[got]++
			}
		}
		if len(seen) == 2 {
			differ++
		}
	}
	if differ < 100 {
		t.Errorf("P15.3: only %d graphs are local for some numbers, and not for others", differ)
	}
}

// P15.3: what is local is so for greater numbers, for graphs without a memory or an anticipation, too; turned around, the numbers are exchanged.
func TestGreaterNumbers(t *testing.T) {
	r := rand.New(rand.NewSource(8))
	for _, g := range slices.Concat(small(9), large(10)) {
		m, a := r.Intn(6), r.Intn(6)
		is := localOf(t, g, m, a)
		if is && !localOf(t, g, m+r.Intn(3), a+r.Intn(3)) {
			t.Fatalf("P15.3: Local %v, %d, %d, but not for greater numbers", g, m, a)
		}
		if localOf(t, reversed(g), a, m) != is {
			t.Fatalf("P15.3: Local %v, %d, %d: %t, but not so of the reversed graph", g, m, a, is)
		}
	}
}

// P15.3: deterministic graphs have the anticipation 0, and only they.
func TestDeterministic(t *testing.T) {
	for _, g := range slices.Concat(tiny(), small(11), large(12)) {
		a, is := anticipationOf(t, g)
		if deterministic, e := graph.Deterministic(g); e != api.OK || deterministic != (is && a == 0) {
			t.Fatalf("P15.3: Anticipation %v: %d, %t, but it is deterministic: %t, %d", g, a, is, deterministic, e)
		}
	}
}

// P15.2, P15.3: known numbers, among them great ones.
func TestKnownNumbers(t *testing.T) {
	long, pairs := chain(255)
	// Two edges lead to the last pair, from which the chain is followed back.
	back := reversed(long)
	forked := samples.Made(256, 64, append(back.Edges, api.Edge{From: 0, Label: 255, To: pairs[255][0]}, api.Edge{From: 0, Label: 255, To: pairs[255][1]}))
	list := []struct {
		g     api.Graph
		m     int
		is    bool
		a     int
		ahead bool
	}{
		{samples.Golden(), 1, true, 0, true}, {samples.Even(), 0, false, 0, true}, {samples.Stairs(), 1, true, 0, true},
		{samples.Of(1, 0), 0, true, 0, true}, {samples.Of(256, 1), 0, true, 0, true}, {samples.Whole(256), 0, true, 0, true},
		// Paths of one edge there are none.
		{samples.Of(1, 2), 1, true, 0, true}, {samples.Of(256, 64), 1, true, 0, true},
		{samples.Line(1, 2), 1, true, 0, true}, {samples.Line(1, 64), 63, true, 0, true}, {samples.Cycles(64), 0, false, 0, true}, {samples.Cycles(1), 0, true, 0, true},
		{long, 256, true, 0, true}, {back, 256, true, 0, true}, {forked, 0, false, 256, true},
		// The ends of paths of two edges; paths that begin differently for one, two and three edges.
		{samples.Of(1, 3, 0, 0, 1, 0, 0, 2), 2, true, 1, true}, {samples.Of(1, 4, 0, 0, 1, 0, 0, 2, 1, 0, 3), 2, true, 1, true}, {samples.Of(1, 5, 0, 0, 1, 0, 0, 2, 1, 0, 3, 2, 0, 4), 3, true, 2, true},
		{samples.Of(2, 5, 0, 0, 1, 0, 0, 2, 1, 0, 3, 2, 0, 4, 3, 0, 0, 4, 1, 0), 0, false, 2, true},
		// The edges lead to one state, or they do not leave one.
		{samples.Of(2, 2, 0, 0, 1, 0, 1, 1, 1, 0, 0), 0, false, 0, true}, {samples.Of(1, 2, 0, 0, 0, 0, 0, 1), 0, false, 1, true}, {samples.Of(1, 2, 0, 0, 0, 0, 0, 1, 1, 0, 1), 0, false, 0, false},
		// Two edges that meet again.
		{samples.Of(1, 4, 0, 0, 1, 0, 0, 2, 1, 0, 3, 2, 0, 3), 2, true, 2, true}, {samples.Of(1, 4, 0, 0, 1, 0, 0, 2, 1, 0, 3, 2, 0, 3, 3, 0, 3), 2, true, 0, false},
		{samples.Of(2, 4, 0, 0, 1, 0, 0, 2, 1, 0, 3, 2, 0, 3, 3, 1, 0), 0, false, 0, false},
		// A state without edges counts for the memory 0 only.
		{samples.Of(1, 2, 0, 0, 0), 1, true, 0, true}, {samples.Of(2, 3, 0, 0, 0, 0, 1, 0), 1, true, 0, true},
	}
	for _, c := range list {
		m, is := memoryOf(t, c.g)
		a, ahead := anticipationOf(t, c.g)
		if m != c.m || is != c.is || a != c.a || ahead != c.ahead {
			t.Errorf("P15.2, P15.3: %v: %d, %t, %d, %t, not %d, %t, %d, %t", c.g, m, is, a, ahead, c.m, c.is, c.a, c.ahead)
		}
	}
}

// P15.3: known places, with numbers that only just suffice.
func TestKnownPlaces(t *testing.T) {
	line := samples.Line(1, 64)
	long, _ := chain(255)
	for _, c := range []struct {
		g    api.Graph
		m, a int
		is   bool
	}{
		{samples.Golden(), 1, 0, true}, {samples.Golden(), 0, 0, false}, {samples.Golden(), 0, api.MaxPower, false}, {samples.Golden(), api.MaxPower, 0, true}, {samples.Even(), api.MaxPower, api.MaxPower, false}, {reversed(samples.Golden()), 0, 1, true}, {reversed(samples.Golden()), api.MaxPower, 0, false},
		{line, 62, 0, true}, {line, 61, 0, false}, {line, 0, 62, true}, {line, 0, 61, false}, {line, 31, 31, true}, {line, 30, 31, false}, {line, 31, 30, false}, {line, api.MaxPower, api.MaxPower, true},
		// A label tells the place here, but not which of two edges.
		{long, 254, 0, false}, {long, 255, 0, true}, {long, 0, 254, false}, {long, 0, 255, true}, {long, 100, 154, false}, {long, 100, 155, true},
		{samples.Of(1, 0), 0, 0, true}, {samples.Of(256, 64), 0, 0, true}, {samples.Whole(256), 0, 0, true}, {samples.Of(1, 2, 0, 0, 0, 1, 0, 1), api.MaxPower, api.MaxPower, false}, {samples.Of(1, 2, 0, 0, 1), 0, 0, true}, {samples.Of(1, 2, 0, 0, 0, 0, 0, 1), 0, 1, true}, {samples.Of(1, 2, 0, 0, 0, 0, 0, 1), 1, 0, false},
		// Edges that differ only by where they begin, or only by where they lead.
		{samples.Of(1, 2, 0, 0, 0, 1, 0, 0), 0, api.MaxPower, false}, {samples.Of(1, 2, 0, 0, 0, 1, 0, 0), 1, 0, true}, {samples.Of(1, 3, 0, 0, 1, 0, 0, 2), 0, 0, false}, {samples.Of(1, 3, 0, 0, 1, 0, 0, 2), 1, 0, true}, {samples.Of(1, 3, 0, 0, 1, 0, 0, 2), 0, 1, true},
	} {
		if is := localOf(t, c.g, c.m, c.a); is != c.is {
			t.Errorf("P15.3: Local %v, %d, %d: %t", c.g, c.m, c.a, is)
		}
	}
}

// P15.2: the memory of a deterministic graph in which many pairs of states lead on, as many labels as possible.
func TestLongMemory(t *testing.T) {
	for _, n := range []int{1, 2, 63, 64, 200, 256} {
		g, _ := chain(n)
		if m, is, e := memory.Memory(g); m != n+1 || !is || e != api.OK {
			t.Errorf("P15.2: Memory of a chain of %d: %d, %t, %d", n, m, is, e)
		}
	}
}
