package power_test

import (
	"fmt"
	"slices"
	"testing"

	"groove/api"
	"groove/graph"
	"groove/minimal"
	"groove/power"
	"groove/samples"
)

// checkProduct checks the product of two graphs against the definition, and returns the error.
func checkProduct(t *testing.T, g, h api.Graph) api.Errno {
	t.Helper()
	want, wants, f := productBy(g, h)
	p, pairs, e := power.Product(g, h)
	if e != f || !graph.Same(p, want) || !slices.EqualFunc(pairs, wants, slices.Equal) {
		t.Fatalf("P16.1: Product %v, %v: %v, %v, %d, not %v, %v, %d", g, h, p, pairs, e, want, wants, f)
	}
	return e
}

// P16.1: products of all kinds of graphs with equally many labels, by the definition.
func TestProduct(t *testing.T) {
	count := map[string]int{}
	for _, c := range couples(1) {
		e := checkProduct(t, c[0], c[1])
		p, _, _ := power.Product(c[0], c[1])
		count[fmt.Sprint(e, p.States > 0)]++
	}
	if count["0 true"] < 5000 || count["0 false"] < 500 || count["4 false"] < 10 {
		t.Errorf("P16.1: the graphs are too easy: %v", count)
	}
	for _, g := range large(2) {
		for _, h := range []api.Graph{samples.Whole(g.Labels), samples.Of(g.Labels, 0), samples.Of(g.Labels, 1), samples.With(samples.Of(g.Labels, 2), 0, 1, 1), g} {
			checkProduct(t, g, h)
			checkProduct(t, h, g)
		}
	}
}

// P16.1: known products.
func TestKnownProducts(t *testing.T) {
	for _, c := range []struct {
		g, h, want api.Graph
		pairs      [][]int
	}{
		{samples.Golden(), samples.Golden(), samples.Golden(), [][]int{{0, 0}, {1, 1}}},
		// Behind a label 1 the first graph is in the state 1, and the second one is in the state 0.
		{samples.Golden(), samples.Even(), samples.Of(2, 3, 0, 0, 1, 0, 1, 2, 1, 0, 0, 2, 0, 1), [][]int{{0, 0}, {0, 1}, {1, 0}}},
		{samples.Cycles(2), samples.Cycles(3), samples.Of(1, 6, 0, 0, 4, 1, 0, 5, 2, 0, 3, 3, 0, 1, 4, 0, 2, 5, 0, 0), [][]int{{0, 0}, {0, 1}, {0, 2}, {1, 0}, {1, 1}, {1, 2}}},
		{samples.Cycles(2), samples.Cycles(2), samples.Of(1, 4, 0, 0, 3, 1, 0, 2, 2, 0, 1, 3, 0, 0), [][]int{{0, 0}, {0, 1}, {1, 0}, {1, 1}}},
		{samples.Of(2, 0), samples.Golden(), samples.Of(2, 0), nil}, {samples.Golden(), samples.Of(2, 0), samples.Of(2, 0), nil}, {samples.Of(256, 0), samples.Of(256, 0), samples.Of(256, 0), nil},
		{samples.Line(1, 64), samples.Whole(1), samples.Of(1, 0), nil}, {samples.Of(2, 8), samples.Of(2, 8), samples.Of(2, 0), nil},
		{samples.Of(3, 2, 0, 0, 1, 1, 1, 0), samples.Of(3, 2, 0, 2, 1, 1, 1, 0), samples.Of(3, 0), nil},
		{samples.Of(2, 3, 0, 0, 1, 1, 1, 2, 2, 0, 2), samples.Of(2, 2, 0, 0, 0, 0, 1, 1, 1, 0, 1), samples.Of(2, 2, 0, 0, 0, 1, 0, 1), [][]int{{2, 0}, {2, 1}}},
	} {
		p, pairs := productOf(t, c.g, c.h)
		if !graph.Same(p, c.want) || !slices.EqualFunc(pairs, c.pairs, slices.Equal) {
			t.Errorf("P16.1: Product %v, %v: %v, %v, not %v, %v", c.g, c.h, p, pairs, c.want, c.pairs)
		}
	}
}

// P16.1: graphs of all pairs with exactly as many states and edges as there may be, and with one more, also if nothing of them is essential.
func TestProductLimits(t *testing.T) {
	for one := range 65 {
		for other := range 65 {
			g, h := samples.Of(3, one), samples.Of(3, other)
			want := api.OK
			if one*other > 64 {
				want = api.ErrLimit
			}
			if p, pairs, e := power.Product(g, h); e != want || p.States != 0 || len(pairs) > 0 || e == api.OK && p.Labels != 3 || e != api.OK && p.Labels != 0 {
				t.Errorf("P16.1: Product of %d and %d states: %v, %v, %d, not %d", one, other, p, pairs, e, want)
			}
		}
	}
	grid := samples.Made(17, 8, samples.Grid(16, 8).Edges)
	more := samples.With(grid, 16, 17, 3)
	for _, c := range []struct {
		g, h  api.Graph
		edges int
		e     api.Errno
	}{
		{samples.Grid(16, 8), samples.Grid(16, 8), 1024, api.OK}, {grid, grid, 1024, api.OK}, {grid, more, 1024, api.OK}, {more, grid, 1024, api.OK}, {more, more, 0, api.ErrLimit},
		{samples.Grid(16, 64), samples.Whole(16), 1024, api.OK}, {samples.Whole(16), samples.Grid(16, 64), 1024, api.OK}, {samples.Grid(16, 64), samples.With(samples.Of(16, 1), 0, 15, 0), 960, api.OK}, {samples.Grid(16, 64), samples.Grid(16, 64), 0, api.ErrLimit},
		{falling(28, 16, 0), falling(28, 15, 0), 0, api.OK}, {falling(28, 16, 1), falling(28, 15, 0), 0, api.OK}, {falling(28, 16, 1), falling(28, 15, 1), 0, api.ErrLimit}, {falling(28, 28, 28), falling(28, 28, 28), 0, api.ErrLimit},
	} {
		p, pairs, e := power.Product(c.g, c.h)
		if e != c.e || len(p.Edges) != c.edges || len(pairs) != p.States {
			t.Errorf("P16.1: Product of %d and %d edges: %d edges, %d, not %d, %d", len(c.g.Edges), len(c.h.Edges), len(p.Edges), e, c.edges, c.e)
		}
		checkProduct(t, c.g, c.h)
	}
}

// falling returns a graph with 8 states, no cycles, and some numbers of edges with the labels 0, 1 and so on, at most 28 of each.
func falling(numbers ...int) api.Graph {
	var edges []api.Edge
	for label, number := range numbers {
		for s := range 8 {
			for t := range s {
				if number > 0 {
					edges = append(edges, api.Edge{From: s, Label: label, To: t})
					number--
				}
			}
		}
	}
	return samples.Made(len(numbers), 8, edges)
}

// P16.4: the words of a product are words of both graphs.
func TestWordsOfProducts(t *testing.T) {
	for _, c := range couples(3) {
		p, _, e := power.Product(c[0], c[1])
		if e != api.OK || p.Labels > 3 {
			continue
		}
		for n := range 6 {
			first, second := wordsOf(c[0], n), wordsOf(c[1], n)
			for w := range wordsOf(p, n) {
				if !first[w] || !second[w] {
					t.Fatalf("P16.4: %v is a word of the product of %v and %v: %t, %t", []byte(w), c[0], c[1], first[w], second[w])
				}
			}
		}
	}
}

// P16.4: the product with the graph of one state that has all labels is the essential part, with its states.
func TestProductsWithAll(t *testing.T) {
	for _, g := range slices.Concat(tiny(), small(4), large(5)) {
		want, set, e := graph.Essential(g)
		if e != api.OK {
			t.Fatalf("P16.4: Essential %v: %d", g, e)
		}
		for i, c := range [][2]api.Graph{{g, samples.Whole(g.Labels)}, {samples.Whole(g.Labels), g}} {
			p, pairs := productOf(t, c[0], c[1])
			if !graph.Same(p, want) || len(pairs) != len(set) {
				t.Fatalf("P16.4: Product of %v and all labels: %v, not %v", g, p, want)
			}
			for j, pair := range pairs {
				if len(pair) != 2 || pair[i] != set[j] || pair[1-i] != 0 {
					t.Fatalf("P16.4: Product of %v and all labels: %v, not %v", g, pairs, set)
				}
			}
		}
	}
}

// P16.4: the product of an essential graph with itself has its words.
func TestProductsWithItself(t *testing.T) {
	compared := 0
	for _, g := range slices.Concat(tiny(), small(6), large(7)) {
		p, _, e := power.Product(g, g)
		if e != api.OK || !isEssential(g) {
			continue
		}
		w, is, e := minimal.Equal(p, g)
		if e != api.ErrLimit && (e != api.OK || !is) {
			t.Fatalf("P16.4: Product of %v with itself: %v, %t, %d", g, w, is, e)
		}
		if e == api.OK {
			compared++
		}
	}
	if compared < 300 {
		t.Errorf("P16.4: only %d products were compared", compared)
	}
}

// P16.5: sums by the definition; their words are those of one graph or of the other one.
func TestSum(t *testing.T) {
	for _, c := range couples(8) {
		s := sumOf(t, c[0], c[1])
		if want := samples.Beside(c[0], c[1]); !graph.Same(s, want) {
			t.Fatalf("P16.1: Sum %v, %v: %v, not %v", c[0], c[1], s, want)
		}
		for n := 0; n < 5 && s.Labels <= 3; n++ {
			either := wordsOf(c[0], n)
			for w := range wordsOf(c[1], n) {
				either[w] = true
			}
			if words := wordsOf(s, n); !sameSet(words, either) {
				t.Fatalf("P16.5: Sum %v, %v: %d words of %d letters, not %d", c[0], c[1], len(words), n, len(either))
			}
		}
	}
}

// P16.1: sums with exactly as many states and edges as there may be, and with more.
func TestSumLimits(t *testing.T) {
	half, more := samples.Grid(16, 32), samples.With(samples.Grid(16, 32), 0, 1, 0)
	for _, c := range []struct {
		g, h          api.Graph
		states, edges int
		e             api.Errno
	}{
		{half, half, 64, 1024, api.OK}, {half, more, 0, 0, api.ErrLimit}, {more, half, 0, 0, api.ErrLimit}, {more, samples.Of(16, 32), 64, 513, api.OK}, {half, samples.Of(16, 33), 0, 0, api.ErrLimit}, {samples.Of(16, 33), half, 0, 0, api.ErrLimit},
		{samples.Grid(16, 64), samples.Of(16, 0), 64, 1024, api.OK}, {samples.Of(16, 0), samples.Grid(16, 64), 64, 1024, api.OK}, {samples.Grid(16, 64), samples.Of(16, 1), 0, 0, api.ErrLimit}, {samples.Grid(16, 64), samples.Grid(16, 64), 0, 0, api.ErrLimit}, {samples.Of(256, 0), samples.Of(256, 0), 0, 0, api.OK},
		{samples.Whole(256), samples.Of(256, 63), 64, 256, api.OK}, {samples.Of(256, 63), samples.Whole(256), 64, 256, api.OK}, {samples.Whole(256), samples.With(samples.Of(256, 3), 0, 256, 0, 1, 2), 4, 1024, api.OK}, {samples.Whole(256), samples.With(samples.Of(256, 4), 0, 256, 0, 1, 2, 3), 0, 0, api.ErrLimit},
	} {
		s, e := power.Sum(c.g, c.h)
		if e != c.e || s.States != c.states || len(s.Edges) != c.edges {
			t.Errorf("P16.1: Sum of %d and %d states, %d and %d edges: %d states, %d edges, %d", c.g.States, c.h.States, len(c.g.Edges), len(c.h.Edges), s.States, len(s.Edges), e)
		}
	}
}
