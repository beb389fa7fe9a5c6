package graph_test

import (
	"math/rand"
	"slices"
	"testing"

	"groove/api"
	"groove/graph"
)

// isPart returns whether p is the part of g on a set, by the definition.
func isPart(p, g api.Graph, set []int) bool {
	if p.Labels != g.Labels || p.States != len(set) || !isValid(p) {
		return false
	}
	between := 0
	for _, edge := range g.Edges {
		if slices.Contains(set, edge.From) && slices.Contains(set, edge.To) {
			between++
		}
	}
	for _, edge := range p.Edges {
		if !slices.Contains(g.Edges, api.Edge{From: set[edge.From], Label: edge.Label, To: set[edge.To]}) {
			return false
		}
	}
	return len(p.Edges) == between
}

// P9.5: parts on all kinds of sets, against the definition; the part on all states is the graph.
func TestKeep(t *testing.T) {
	r := rand.New(rand.NewSource(41))
	for _, g := range samples(42) {
		for _, set := range [][]int{nil, {}, randomSet(r, g), randomSet(r, g), randomSet(r, g)} {
			if p := keepOf(t, g, set); !isPart(p, g, set) {
				t.Fatalf("P9.5: Keep %v, %v: %v", g, set, p)
			}
		}
		if p := keepOf(t, g, all(g)); !graph.Same(p, g) {
			t.Fatalf("P9.5: Keep all of %v: %v", g, p)
		}
	}
}

// P9.5: known parts: of no states, with a loop, without edges, and with states in between left out.
func TestKnownParts(t *testing.T) {
	g := of(3, 5, 0, 0, 1, 0, 1, 0, 1, 2, 4, 2, 0, 2, 2, 1, 0, 3, 0, 0, 4, 1, 1, 4, 2, 2)
	for _, c := range []struct {
		set  []int
		want api.Graph
	}{
		{nil, of(3, 0)}, {[]int{0}, of(3, 1, 0, 1, 0)}, {[]int{1}, of(3, 1)}, {[]int{2}, of(3, 1, 0, 0, 0)}, {[]int{3}, of(3, 1)}, {[]int{1, 4}, of(3, 2, 0, 2, 1, 1, 1, 0)},
		{[]int{0, 2}, of(3, 2, 0, 1, 0, 1, 0, 1, 1, 1, 0)}, {[]int{1, 3}, of(3, 2)}, {[]int{0, 1, 2}, of(3, 3, 0, 0, 1, 0, 1, 0, 2, 0, 2, 2, 1, 0)}, {[]int{2, 4}, of(3, 2, 0, 0, 0, 1, 2, 0)}, {[]int{0, 3}, of(3, 2, 0, 1, 0, 1, 0, 0)},
	} {
		if p := keepOf(t, g, c.set); !graph.Same(p, c.want) {
			t.Errorf("P9.5: Keep %v: %v", c.set, p)
		}
	}
}

// P9.5: a part of a part is the part on the states that it consists of.
func TestPartsOfParts(t *testing.T) {
	r := rand.New(rand.NewSource(43))
	for _, g := range samples(44) {
		set := randomSet(r, g)
		p := keepOf(t, g, set)
		inner := randomSet(r, p)
		var states []int
		for _, s := range inner {
			states = append(states, set[s])
		}
		if a, b := keepOf(t, p, inner), keepOf(t, g, states); !graph.Same(a, b) {
			t.Fatalf("P9.5: Keep %v of Keep %v of %v: %v, %v", inner, set, g, a, b)
		}
	}
}

// paths returns which states can be reached from which ones by paths of at least one edge.
func paths(g api.Graph) [][]bool {
	table := make([][]bool, g.States)
	for s := range table {
		table[s] = make([]bool, g.States)
	}
	for _, edge := range g.Edges {
		table[edge.From][edge.To] = true
	}
	for middle := range table {
		for from := range table {
			for to := range table {
				table[from][to] = table[from][to] || table[from][middle] && table[middle][to]
			}
		}
	}
	return table
}

// lasting returns the set of the essential states of g, by the definition: a path leads to each of them from a cycle, and from it to a cycle.
func lasting(g api.Graph) []int {
	table := paths(g)
	var set []int
	for s := range g.States {
		from, to := false, false
		for c := range g.States {
			if table[c][c] {
				from = from || c == s || table[c][s]
				to = to || c == s || table[s][c]
			}
		}
		if from && to {
			set = append(set, s)
		}
	}
	return set
}

// P9.4: essential states and parts, against the definition.
func TestEssential(t *testing.T) {
	for _, g := range samples(45) {
		p, set := essentialOf(t, g)
		if !slices.Equal(set, lasting(g)) || !isPart(p, g, set) {
			t.Fatalf("P9.4: Essential %v: %v, %v", g, p, set)
		}
	}
}

// P9.4: each state of an essential part has an edge to it and one from it, and the essential part of the part is itself.
func TestEssentialTwice(t *testing.T) {
	for _, g := range samples(46) {
		p, _ := essentialOf(t, g)
		for s := range p.States {
			entered := slices.ContainsFunc(p.Edges, func(edge api.Edge) bool { return edge.To == s })
			left := slices.ContainsFunc(p.Edges, func(edge api.Edge) bool { return edge.From == s })
			if !entered || !left {
				t.Fatalf("P9.4: Essential %v: %v, state %d", g, p, s)
			}
		}
		if again, set := essentialOf(t, p); !graph.Same(again, p) || !slices.Equal(set, all(p)) {
			t.Fatalf("P9.4: Essential twice %v: %v, %v", g, again, set)
		}
	}
}

// closed returns the states of a path with random edges up to the first one that comes again, and those of the closed path at its end; none if the path cannot go on.
func closed(r *rand.Rand, g api.Graph, s int) []int {
	var path []int
	for !slices.Contains(path, s) {
		path = append(path, s)
		out := outOf(g, s)
		if len(out) == 0 {
			return nil
		}
		s = g.Edges[out[r.Intn(len(out))]].To
	}
	return path[slices.Index(path, s):]
}

// P9.4: the states of closed paths are essential.
func TestClosedPaths(t *testing.T) {
	r := rand.New(rand.NewSource(47))
	found := 0
	for _, g := range samples(48) {
		_, set := essentialOf(t, g)
		for start := range g.States {
			for _, s := range closed(r, g, start) {
				found++
				if !slices.Contains(set, s) {
					t.Fatalf("P9.4: Essential %v: %v without %d", g, set, s)
				}
			}
		}
	}
	if found < 1000 {
		t.Errorf("P9.4: %d states of closed paths", found)
	}
}

// P9.4: known graphs: without states, edges or cycles, with states between two cycles, before the first one and behind the last one.
func TestKnownEssential(t *testing.T) {
	long := line(64, false)
	for _, c := range []struct {
		g    api.Graph
		want []int
	}{
		{of(1, 0), nil}, {of(2, 3), nil}, {line(2, false), nil}, {line(3, true), nil}, {long, nil}, {of(2, 3, 0, 0, 1, 0, 0, 2, 1, 1, 2), nil},
		{of(1, 1, 0, 0, 0), []int{0}}, {of(2, 3, 1, 0, 1), []int{1}}, {golden(), []int{0, 1}}, {of(1, 2, 0, 0, 1, 1, 0, 0), []int{0, 1}},
		{of(1, 3, 0, 0, 0, 0, 0, 1, 2, 0, 0), []int{0}}, {of(1, 3, 0, 0, 0, 0, 0, 1, 1, 0, 2, 2, 0, 2), []int{0, 1, 2}}, {of(1, 3, 0, 0, 0, 2, 0, 2), []int{0, 2}},
		{of(1, 3, 0, 0, 1, 1, 0, 1, 1, 0, 2), []int{1}}, {of(1, 4, 0, 0, 0, 0, 0, 1, 1, 0, 2, 2, 0, 2, 3, 0, 1), []int{0, 1, 2}},
		{of(1, 5, 0, 0, 1, 1, 0, 0, 1, 0, 2, 2, 0, 3, 4, 0, 3), []int{0, 1}},
		{with(long, 0, 0, 0), []int{0}}, {with(long, 63, 0, 63), []int{63}}, {with(long, 31, 0, 31), []int{31}}, {with(long, 40, 0, 38), []int{38, 39, 40}}, {with(long, 5, 0, 5, 8, 0, 8), []int{5, 6, 7, 8}},
		{with(long, 0, 0, 0, 63, 0, 63), all(long)}, {with(long, 63, 0, 0), all(long)}, {with(line(64, true), 63, 0, 63, 0, 0, 0), all(long)}, {of(256, 64, 63, 255, 63), []int{63}},
	} {
		if p, set := essentialOf(t, c.g); !slices.Equal(set, c.want) || !isPart(p, c.g, c.want) {
			t.Errorf("P9.4: Essential %v: %v, %v", c.g, p, set)
		}
	}
}
