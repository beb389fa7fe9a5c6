package power_test

import (
	"math/rand"
	"slices"
	"testing"

	"groove/api"
	"groove/graph"
	"groove/power"
	"groove/samples"
)

// checkPower checks the power n of a graph against the definition, and returns the error.
func checkPower(t *testing.T, g api.Graph, n int) api.Errno {
	t.Helper()
	want, f := powerBy(g, n)
	p, e := power.Power(g, n)
	if e != f || !graph.Same(p, want) {
		t.Fatalf("P16.1: Power %v, %d: %v, %d, not %v, %d", g, n, p, e, want, f)
	}
	return e
}

// shrinking returns a graph with 2 labels whose power 2 has 1664 edges, and whose power 3 has only 640.
func shrinking() api.Graph {
	var edges []api.Edge
	first := 0
	sizes := []int{20, 4, 20, 4}
	for i, size := range sizes[:3] {
		for s := range size {
			for u := range sizes[i+1] {
				edges = append(edges, api.Edge{From: first + s, Label: 0, To: first + size + u}, api.Edge{From: first + s, Label: 1, To: first + size + u})
			}
		}
		first += size
	}
	return samples.Made(2, 48, edges)
}

// P16.1: powers of all kinds of graphs, by the definition.
func TestPower(t *testing.T) {
	count := map[api.Errno]int{}
	for _, g := range slices.Concat(tiny(), small(1)) {
		for n := 1; n <= 9; n++ {
			count[checkPower(t, g, n)]++
		}
	}
	for _, g := range slices.Concat(large(2), []api.Graph{shrinking()}) {
		for _, n := range []int{1, 2, 3, 4, 16} {
			if raised(g.Labels, n, 64) <= 64 || g.States < 20 {
				count[checkPower(t, g, n)]++
			}
		}
	}
	if count[api.OK] < 5000 || count[api.ErrLimit] < 100 {
		t.Errorf("P16.1: the graphs are too easy: %v", count)
	}
}

// P16.1: the chapter's example, and other known powers.
func TestKnownPowers(t *testing.T) {
	for _, c := range []struct {
		g    api.Graph
		n    int
		want api.Graph
	}{
		{samples.Even(), 2, samples.Of(4, 2, 0, 0, 0, 0, 2, 1, 0, 3, 0, 1, 0, 1, 1, 1, 0)},
		{samples.Golden(), 3, samples.Of(8, 2, 0, 0, 0, 0, 1, 1, 0, 2, 0, 0, 4, 0, 0, 5, 1, 1, 0, 0, 1, 1, 1, 1, 2, 0)},
		{samples.Of(1, 0), 16, samples.Of(1, 0)}, {samples.Of(2, 0), 8, samples.Of(256, 0)}, {samples.Of(16, 64), 2, samples.Of(256, 64)}, {samples.Line(1, 17), 16, samples.Of(1, 17, 0, 0, 16)}, {samples.Line(1, 16), 16, samples.Of(1, 16)},
		{samples.Whole(16), 2, samples.Whole(256)}, {samples.Whole(2), 8, samples.Whole(256)}, {samples.Whole(256), 1, samples.Whole(256)}, {samples.Whole(3), 5, samples.Whole(243)}, {samples.Whole(1), 16, samples.Whole(1)},
		// Two paths with equal labels between the same states are one edge.
		{samples.Of(1, 4, 0, 0, 1, 0, 0, 2, 1, 0, 3, 2, 0, 3), 2, samples.Of(1, 4, 0, 0, 3)},
		// 16 edges on a cycle of 5 states lead on by one.
		{samples.Cycles(5), 16, samples.Cycles(5)}, {samples.Cycles(5), 15, samples.Of(1, 5, 0, 0, 0, 1, 0, 1, 2, 0, 2, 3, 0, 3, 4, 0, 4)},
	} {
		if p := powerOf(t, c.g, c.n); !graph.Same(p, c.want) {
			t.Errorf("P16.1: Power %v, %d: %v, not %v", c.g, c.n, p, c.want)
		}
	}
}

// P16.1: powers with exactly as many labels and edges as there may be, and with more; powers on the way can have too many edges.
func TestPowerLimits(t *testing.T) {
	for labels := 1; labels <= 256; labels++ {
		g := samples.With(samples.Of(labels, 1), 0, 1, 0)
		for n := 1; n <= api.MaxBlock; n++ {
			if p, e := power.Power(g, n); (e == api.OK) != (raised(labels, n, 256) <= 256) || e != api.OK && e != api.ErrLimit || e == api.OK && (p.Labels != raised(labels, n, 256) || len(p.Edges) != 1) {
				t.Errorf("P16.1: Power of a graph with %d labels, %d: %v, %d", labels, n, p, e)
			}
		}
	}
	grid := samples.Grid(16, 4)
	for _, c := range []struct {
		g        api.Graph
		n, edges int
		e        api.Errno
	}{
		{grid, 2, 1024, api.OK}, {samples.Beside(grid, samples.Line(16, 2)), 2, 1024, api.OK}, {samples.Beside(grid, samples.Line(16, 3)), 2, 0, api.ErrLimit}, {samples.Beside(samples.Line(16, 3), grid), 2, 0, api.ErrLimit}, {samples.Grid(16, 64), 1, 1024, api.OK}, {samples.Grid(16, 64), 2, 0, api.ErrLimit}, {samples.Grid(2, 8), 8, 0, api.ErrLimit}, {samples.Grid(2, 8), 7, 1024, api.OK}, {samples.Grid(2, 64), 4, 1024, api.OK},
		{shrinking(), 2, 0, api.ErrLimit}, {shrinking(), 3, 640, api.OK}, {shrinking(), 4, 0, api.OK}, {shrinking(), 8, 0, api.OK}, {shrinking(), 9, 0, api.ErrLimit},
	} {
		p, e := power.Power(c.g, c.n)
		if e != c.e || len(p.Edges) != c.edges {
			t.Errorf("P16.1: Power %d of a graph with %d edges: %d edges, %d, not %d, %d", c.n, len(c.g.Edges), len(p.Edges), e, c.edges, c.e)
		}
		checkPower(t, c.g, c.n)
	}
}

// P16.2: a power of a power is the power with the product of the exponents, and the first power is the graph.
func TestPowersOfPowers(t *testing.T) {
	compared := 0
	for _, g := range slices.Concat(tiny(), small(3), large(4), []api.Graph{shrinking()}) {
		if p := powerOf(t, g, 1); !graph.Same(p, g) {
			t.Fatalf("P16.2: Power %v, 1: %v", g, p)
		}
		for m := 1; m <= api.MaxBlock; m++ {
			p, e := power.Power(g, m)
			for n := 1; e == api.OK && m*n <= api.MaxBlock; n++ {
				one, f := power.Power(p, n)
				other, h := power.Power(g, m*n)
				if f != h || !graph.Same(one, other) {
					t.Fatalf("P16.2: Power %v, %d, and of this %d: %v, %d, not %v, %d", g, m, n, one, f, other, h)
				}
				if f == api.OK && m > 1 && n > 1 {
					compared++
				}
			}
		}
	}
	if compared < 5000 {
		t.Errorf("P16.2: only %d powers of powers were compared", compared)
	}
}

// P16.2: the words of a power are the words of the graph with that many times as many letters.
func TestWordsOfPowers(t *testing.T) {
	for _, g := range slices.Concat(tiny(), small(5)) {
		for n := 1; n <= 4; n++ {
			p, e := power.Power(g, n)
			blocks := samples.Lists(g.Labels, n)
			for length := 0; e == api.OK && length*n <= 6; length++ {
				words := map[string]bool{}
				for w := range wordsOf(p, length) {
					var long []int
					for _, number := range []byte(w) {
						long = append(long, blocks[number]...)
					}
					words[samples.Key(long)] = true
				}
				if want := wordsOf(g, length*n); !sameSet(words, want) {
					t.Fatalf("P16.2: Power %v, %d: %d words of %d letters, not %d", g, n, len(words), length, len(want))
				}
			}
		}
	}
}

// sameSet returns whether two sets are equal.
func sameSet(a, b map[string]bool) bool {
	for w := range a {
		if !b[w] {
			return false
		}
	}
	return len(a) == len(b)
}

// P16.6: recoded graphs by the definition; with the labels themselves nothing changes, and twice is once with both lists.
func TestRecode(t *testing.T) {
	r := rand.New(rand.NewSource(6))
	joined := 0
	for _, g := range slices.Concat(tiny(), small(7), large(8)) {
		same := make([]int, g.Labels)
		for label := range same {
			same[label] = label
		}
		if h := recodeOf(t, g, g.Labels, same); !graph.Same(h, g) {
			t.Fatalf("P16.6: Recode %v with its labels: %v", g, h)
		}
		labels, more := 1+r.Intn(g.Labels+3), 1+r.Intn(256)
		first, second := numbers(r, g.Labels, min(labels, 256)), numbers(r, min(labels, 256), more)
		h := recodeOf(t, g, min(labels, 256), first)
		if want := recodedBy(g, min(labels, 256), first); !graph.Same(h, want) {
			t.Fatalf("P16.1: Recode %v, %d, %v: %v, not %v", g, labels, first, h, want)
		}
		if len(h.Edges) < len(g.Edges) {
			joined++
		}
		both := make([]int, g.Labels)
		for label := range both {
			both[label] = second[first[label]]
		}
		if one, other := recodeOf(t, h, more, second), recodeOf(t, g, more, both); !graph.Same(one, other) {
			t.Fatalf("P16.6: Recode %v, %v, and then %v: %v, but with both %v", g, first, second, one, other)
		}
	}
	if joined < 50 {
		t.Errorf("P16.6: edges became equal only %d times", joined)
	}
}

// numbers returns a list of n numbers that are less than a limit.
func numbers(r *rand.Rand, n, limit int) []int {
	list := make([]int, n)
	for i := range list {
		list[i] = r.Intn(limit)
	}
	return list
}

// P16.1: known recoded graphs: exchanged labels, labels that become one, and more labels than before.
func TestKnownRecodings(t *testing.T) {
	for _, c := range []struct {
		g      api.Graph
		labels int
		l      []int
		want   api.Graph
	}{
		{samples.Golden(), 2, []int{1, 0}, samples.Of(2, 2, 0, 0, 1, 0, 1, 0, 1, 1, 0)}, {samples.Golden(), 1, []int{0, 0}, samples.Of(1, 2, 0, 0, 0, 0, 0, 1, 1, 0, 0)}, {samples.Golden(), 256, []int{255, 0}, samples.Of(256, 2, 0, 0, 1, 0, 255, 0, 1, 255, 0)}, {samples.Golden(), 5, []int{3, 3}, samples.Of(5, 2, 0, 3, 0, 0, 3, 1, 1, 3, 0)},
		{samples.Whole(256), 1, make([]int, 256), samples.Whole(1)}, {samples.Grid(16, 64), 1, make([]int, 16), samples.Cycles(64)}, {samples.Of(3, 0), 2, []int{1, 0, 1}, samples.Of(2, 0)}, {samples.Of(1, 64), 256, []int{255}, samples.Of(256, 64)},
	} {
		if h := recodeOf(t, c.g, c.labels, c.l); !graph.Same(h, c.want) {
			t.Errorf("P16.1: Recode %v, %d, %v: %v, not %v", c.g, c.labels, c.l, h, c.want)
		}
	}
}
