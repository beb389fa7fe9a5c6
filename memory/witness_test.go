package memory_test

import (
	"cmp"
	"math/rand"
	"slices"
	"testing"

	"groove/api"
	"groove/graph"
	"groove/samples"
)

// deterministic returns deterministic graphs of all kinds.
func deterministic(seed int64) []api.Graph {
	r := rand.New(rand.NewSource(seed))
	var list []api.Graph
	for _, g := range slices.Concat(tiny(), samples.Subgraphs(1, 3), samples.Small(r), samples.Large(r)) {
		if is, _ := graph.Deterministic(g); is {
			list = append(list, g)
		}
	}
	for range 300 {
		list = append(list, samples.Deterministic(r, 2, 2+r.Intn(6), 0.4+0.4*r.Float64()), samples.Deterministic(r, 3, 2+r.Intn(6), 0.6+0.3*r.Float64()))
	}
	return list
}

// isWitness returns whether two lists of indices of edges are a witness, by the definition.
func isWitness(g api.Graph, first, second []int) bool {
	if len(first) == 0 || len(first) != len(second) {
		return false
	}
	for _, list := range [][]int{first, second} {
		for i, n := range list {
			if n < 0 || n >= len(g.Edges) || g.Edges[n].To != g.Edges[list[(i+1)%len(list)]].From {
				return false
			}
		}
	}
	for i := range first {
		one, other := g.Edges[first[i]], g.Edges[second[i]]
		if one.Label != other.Label || one.From == other.From {
			return false
		}
	}
	return true
}

// joined is two lists of indices of edges, along which pairs of states lead from one to another one.
type joined struct {
	start, at     [2]int
	first, second []int
}

// narrowed returns the witness of n edges that comes first, and whether there is one, if there is none with fewer edges, and a function tells which pairs lead where: from all pairs of states on, only the lists with the least first edges are gone on with, then those with the least second ones.
func narrowed(g api.Graph, returns func(from, to [2]int, n int) bool, n int) ([]int, []int, bool) {
	var list []joined
	for s := range g.States {
		for u := range g.States {
			if p := [2]int{s, u}; s != u && returns(p, p, n) {
				list = append(list, joined{start: p, at: p})
			}
		}
	}
	if len(list) == 0 {
		return nil, nil, false
	}
	for left := n - 1; left >= 0; left-- {
		var longer []joined
		for _, j := range list {
			for _, step := range stepsFrom(g, j.at) {
				to := [2]int{g.Edges[step[0]].To, g.Edges[step[1]].To}
				if returns(to, j.start, left) {
					longer = append(longer, joined{j.start, to, append(slices.Clone(j.first), step[0]), append(slices.Clone(j.second), step[1])})
				}
			}
		}
		least := slices.MinFunc(longer, func(a, b joined) int { return slices.Compare(a.first, b.first) })
		list = slices.DeleteFunc(longer, func(j joined) bool { return !slices.Equal(j.first, least.first) })
	}
	best := slices.MinFunc(list, func(a, b joined) int { return slices.Compare(a.second, b.second) })
	return best.first, best.second, true
}

// stepsFrom returns the pairs of edges with equal labels that lead from a pair of states to different ones.
func stepsFrom(g api.Graph, p [2]int) [][2]int {
	var list [][2]int
	for i, one := range g.Edges {
		for j, other := range g.Edges {
			if one.From == p[0] && other.From == p[1] && one.Label == other.Label && one.To != other.To {
				list = append(list, [2]int{i, j})
			}
		}
	}
	return list
}

// returning returns a function that tells whether n pairs of edges lead from a pair of states to another one. What has been found out is kept.
func returning(g api.Graph) func(from, to [2]int, n int) bool {
	type question struct {
		from, to [2]int
		n        int
	}
	known := map[question]bool{}
	steps := map[[2]int][][2]int{}
	var is func(from, to [2]int, n int) bool
	is = func(from, to [2]int, n int) bool {
		if n == 0 {
			return from == to
		}
		q := question{from, to, n}
		if _, there := known[q]; !there {
			if _, there := steps[from]; !there {
				steps[from] = stepsFrom(g, from)
			}
			known[q] = slices.ContainsFunc(steps[from], func(step [2]int) bool {
				return is([2]int{g.Edges[step[0]].To, g.Edges[step[1]].To}, to, n-1)
			})
		}
		return known[q]
	}
	return is
}

// P15.4: all small deterministic graphs, by the definition: all closed paths of 1, 2, 3 .. edges, one after the other, with all others.
func TestAllWitnesses(t *testing.T) {
	for _, g := range deterministic(1) {
		if g.States > 3 || g.Labels > 2 {
			continue
		}
		first, second, is := witnessOf(t, g)
		last := 6
		if is {
			last = min(last, len(first))
		}
		for n := 1; n <= last; n++ {
			wants, others := leastWitness(g, n)
			found := is && n == len(first)
			if found != (len(wants) > 0) || found && (!slices.Equal(first, wants) || !slices.Equal(second, others)) {
				t.Fatalf("P15.4: Witness %v: %v, %v, %t, but of %d edges: %v, %v", g, first, second, is, n, wants, others)
			}
		}
	}
}

// leastWitness returns the least witness of n edges, by the definition, or no lists.
func leastWitness(g api.Graph, n int) ([]int, []int) {
	var closed [][]int
	paths(g, n, func(path, labels []int) {
		if g.Edges[path[0]].From == g.Edges[path[n-1]].To {
			closed = append(closed, slices.Clone(path))
		}
	})
	for _, first := range closed {
		for _, second := range closed {
			if isWitness(g, first, second) {
				return first, second
			}
		}
	}
	return nil, nil
}

// P15.4: a deterministic graph has a witness exactly if it has no memory; it is one by the definition, none has fewer edges, and of those with as many edges it comes first.
func TestWitnesses(t *testing.T) {
	lengths := map[int]int{}
	for _, g := range deterministic(2) {
		first, second, is := witnessOf(t, g)
		_, finite := memoryOf(t, g)
		if is == finite {
			t.Fatalf("P15.4: Witness %v: %v, %v, %t, but there is a memory: %t", g, first, second, is, finite)
		}
		lengths[len(first)]++
		if !is {
			continue
		}
		if !isWitness(g, first, second) {
			t.Fatalf("P15.4: Witness %v: %v, %v, which is none", g, first, second)
		}
		if len(g.Edges) > 200 || len(first) > 16 {
			continue
		}
		returns := returning(g)
		for n := 1; n < len(first); n++ {
			if less, other, shorter := narrowed(g, returns, n); shorter {
				t.Fatalf("P15.4: Witness %v: %v, %v, but also %v, %v", g, first, second, less, other)
			}
		}
		if least, other, _ := narrowed(g, returns, len(first)); !slices.Equal(first, least) || !slices.Equal(second, other) {
			t.Fatalf("P15.4: Witness %v: %v, %v, not %v, %v", g, first, second, least, other)
		}
	}
	if len(lengths) < 8 || lengths[0] < 100 || lengths[1] < 100 || lengths[2] < 50 || lengths[3] < 10 {
		t.Errorf("P15.4: the graphs are too easy: %v", lengths)
	}
}

// P15.4: known witnesses.
func TestKnownWitnesses(t *testing.T) {
	var up, next []int
	for s := range 64 {
		up = append(up, s)
		next = append(next, (s+1)%64)
	}
	two := samples.Of(2, 4, 0, 0, 1, 1, 0, 0, 2, 1, 2, 3, 1, 3)
	for _, c := range []struct {
		g             api.Graph
		first, second []int
	}{
		{samples.Golden(), nil, nil}, {samples.Even(), []int{0, 2}, []int{2, 0}}, {samples.Of(1, 0), nil, nil}, {samples.Of(256, 64), nil, nil}, {samples.Whole(256), nil, nil},
		{samples.Line(1, 64), nil, nil}, {samples.Cycles(1), nil, nil}, {samples.Cycles(64), up, next}, {samples.Cycles(3, 5), []int{0, 1, 2}, []int{1, 2, 0}}, {samples.Cycles(5, 1), []int{0, 1, 2, 3, 4}, []int{1, 2, 3, 4, 0}}, {samples.Cycles(1, 1), []int{0}, []int{1}},
		// Cycles of 2 and 3 edges beside each other: two paths of one cycle have fewer edges than six of both.
		{samples.Cycles(2, 3), []int{0, 1}, []int{1, 0}}, {samples.Cycles(5, 2), []int{5, 6}, []int{6, 5}},
		// The least number of edges first, also with greater ones; then the first list, and then the second one.
		{two, []int{2}, []int{3}}, {samples.With(two, 0, 1, 2, 3), []int{2}, []int{4}}, {samples.Of(1, 3, 0, 0, 0, 1, 0, 1, 2, 0, 2), []int{0}, []int{1}},
		{samples.Of(2, 3, 0, 1, 0, 1, 0, 1, 2, 0, 2, 2, 1, 2), []int{0}, []int{3}}, {samples.Of(2, 4, 0, 1, 0, 2, 1, 2, 1, 0, 1, 3, 0, 3), []int{0}, []int{2}},
		{samples.Of(2, 4, 0, 0, 1, 1, 0, 0, 1, 1, 0, 2, 0, 3, 3, 0, 2, 3, 1, 2), []int{0, 1}, []int{1, 0}},
		{samples.Of(3, 4, 0, 1, 1, 1, 2, 0, 2, 1, 3, 3, 2, 2), []int{0, 1}, []int{2, 3}}, {samples.Of(3, 4, 0, 1, 1, 1, 2, 0, 2, 2, 3, 3, 1, 2), []int{0, 1}, []int{3, 2}},
		// Two paths that meet are none, however the labels go on.
		{samples.Of(1, 2, 0, 0, 0, 1, 0, 0), nil, nil}, {samples.Of(2, 3, 0, 0, 1, 1, 0, 2, 2, 0, 2, 2, 1, 0), nil, nil},
	} {
		if first, second, _ := witnessOf(t, c.g); !slices.Equal(first, c.first) || !slices.Equal(second, c.second) {
			t.Errorf("P15.4: Witness %v: %v, %v, not %v, %v", c.g, first, second, c.first, c.second)
		}
	}
}

// P15.4: a chain of pairs of states is a witness only if it is closed, whichever state of the last pair leads to which one of the first pair; exchanged, it is closed after twice as many edges.
func TestClosedChains(t *testing.T) {
	g, list := chain(255)
	if first, second, is := witnessOf(t, g); is {
		t.Errorf("P15.4: Witness of a chain: %v, %v", first, second)
	}
	for i := range 2 {
		last, begin := list[255], list[0]
		closed := samples.Made(256, 64, append(slices.Clone(g.Edges), api.Edge{From: last[0], Label: 255, To: begin[i]}, api.Edge{From: last[1], Label: 255, To: begin[1-i]}))
		first, second, is := witnessOf(t, closed)
		if !is || len(first) != 256*(i+1) || !isWitness(closed, first, second) {
			t.Fatalf("P15.4: Witness of a closed chain: %v, %v, %t", first, second, is)
		}
		// The state 0 has the least edges: one of them begins the first list, in one of the pairs with the state 0.
		var least []int
		for j := range first {
			turned := slices.Concat(first[j:], first[:j])
			other := slices.Concat(second[j:], second[:j])
			for _, l := range [][]int{turned, other} {
				if least == nil || cmp.Or(cmp.Compare(len(l), len(least)), slices.Compare(l, least)) < 0 {
					least = l
				}
			}
		}
		if !slices.Equal(first, least) {
			t.Errorf("P15.4: Witness of a closed chain: %v, not %v", first, least)
		}
	}
}
