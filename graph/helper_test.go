package graph_test

import (
	"math"
	"math/rand"
	"slices"
	"testing"

	"groove/api"
	"groove/graph"
)

// edges returns the edges whose numbers follow each other.
func edges(numbers ...int) []api.Edge {
	var list []api.Edge
	for i := 0; i < len(numbers); i += 3 {
		list = append(list, api.Edge{From: numbers[i], Label: numbers[i+1], To: numbers[i+2]})
	}
	return list
}

// of returns the graph with some labels and states, and the edges whose numbers follow each other.
func of(labels, states int, numbers ...int) api.Graph {
	return api.Graph{Labels: labels, States: states, Edges: edges(numbers...)}
}

// golden returns the graph of the chapter's example, whose words have no two labels 1 in a row.
func golden() api.Graph {
	return of(2, 2, 0, 0, 0, 0, 1, 1, 1, 0, 0)
}

// possible returns all edges between some states with some labels, in their order, by the definition.
func possible(labels, states int) []api.Edge {
	var list []api.Edge
	for from := range states {
		for label := range labels {
			for to := range states {
				list = append(list, api.Edge{From: from, Label: label, To: to})
			}
		}
	}
	return list
}

// subgraphs returns all graphs with some labels and states.
func subgraphs(labels, states int) []api.Graph {
	all := possible(labels, states)
	var list []api.Graph
	for bits := range 1 << len(all) {
		g := api.Graph{Labels: labels, States: states}
		for i, edge := range all {
			if bits>>i&1 == 1 {
				g.Edges = append(g.Edges, edge)
			}
		}
		list = append(list, g)
	}
	return list
}

// random returns a graph with some labels and states, and each edge with the same probability, as far as there is room.
func random(r *rand.Rand, labels, states int, probability float64) api.Graph {
	g := api.Graph{Labels: labels, States: states}
	for _, edge := range possible(labels, states) {
		if r.Float64() < probability && len(g.Edges) < api.MaxEdge {
			g.Edges = append(g.Edges, edge)
		}
	}
	return g
}

// randomDeterministic returns a graph with at most one edge for each state and label, each with the same probability.
func randomDeterministic(r *rand.Rand, labels, states int, probability float64) api.Graph {
	g := api.Graph{Labels: labels, States: states}
	for from := range states {
		for label := range labels {
			if r.Float64() < probability && len(g.Edges) < api.MaxEdge {
				g.Edges = append(g.Edges, api.Edge{From: from, Label: label, To: r.Intn(states)})
			}
		}
	}
	return g
}

// line returns a path through n states, the first one 0 or, in the other direction, the last one.
func line(n int, back bool) api.Graph {
	g := api.Graph{Labels: 1, States: n}
	for s := range n - 1 {
		if back {
			g.Edges = append(g.Edges, api.Edge{From: s + 1, To: s})
		} else {
			g.Edges = append(g.Edges, api.Edge{From: s, To: s + 1})
		}
	}
	return g
}

// with returns g with further edges, in their order, each once, by the definition.
func with(g api.Graph, numbers ...int) api.Graph {
	more := edges(numbers...)
	var list []api.Edge
	for _, edge := range possible(g.Labels, g.States) {
		if slices.Contains(g.Edges, edge) || slices.Contains(more, edge) {
			list = append(list, edge)
		}
	}
	g.Edges = list
	return g
}

// full returns a graph with MaxState states, MaxLabel labels and MaxEdge edges.
func full() api.Graph {
	g := api.Graph{Labels: api.MaxLabel, States: api.MaxState}
	for i := range api.MaxEdge {
		g.Edges = append(g.Edges, api.Edge{From: i / 16, Label: i % 16 * 17, To: 63 - (i*7)%64})
	}
	return g
}

// known returns graphs that the chapter names: without states or edges, with loops, with as many states, labels and edges as there may be, with cycles and without.
func known() []api.Graph {
	list := []api.Graph{
		golden(), of(1, 0), of(256, 0), of(1, 1), of(2, 5), of(256, 64), of(1, 1, 0, 0, 0), of(3, 1, 0, 1, 0), of(2, 3, 1, 0, 1), of(256, 1, 0, 255, 0), of(256, 64, 63, 255, 63), full(),
		{Labels: 1, States: 32, Edges: possible(1, 32)}, {Labels: 4, States: 16, Edges: possible(4, 16)}, {Labels: 256, States: 2, Edges: possible(256, 2)},
		{Labels: 2, States: 2, Edges: []api.Edge{}},
		of(2, 3, 0, 0, 0, 0, 1, 1, 1, 0, 0, 1, 1, 2),
		// A state on a path between two cycles, and one beside it that leads to a cycle only.
		of(1, 4, 0, 0, 0, 0, 0, 1, 1, 0, 2, 2, 0, 2, 3, 0, 1),
		of(2, 6, 0, 0, 1, 1, 1, 0, 1, 1, 2, 2, 0, 3, 3, 0, 4, 4, 0, 5, 5, 1, 4),
	}
	for _, n := range []int{2, 3, 63, 64} {
		l := line(n, false)
		list = append(list, l, line(n, true), with(l, n-1, 0, 0), with(l, 0, 0, 0), with(l, n-1, 0, n-1), with(l, 0, 0, 0, n-1, 0, n-1), with(line(n, true), n-1, 0, n-1), with(l, n/2, 0, n/2))
	}
	return list
}

// samples returns valid graphs of all kinds: known ones, all small ones, and random ones.
func samples(seed int64) []api.Graph {
	r := rand.New(rand.NewSource(seed))
	list := slices.Concat(known(), subgraphs(2, 2), subgraphs(1, 3))
	for i := range 300 {
		states := 1 + r.Intn(8)
		list = append(list, random(r, 1+r.Intn(3), states, 0.5*r.Float64()), random(r, 1+r.Intn(4), states, 0.9/float64(states)), randomDeterministic(r, 1+r.Intn(4), states, r.Float64()))
		if i%10 == 0 {
			list = append(list, random(r, 1+r.Intn(4), 64, 0.03*r.Float64()), random(r, 1, 64, 1.2/64), randomDeterministic(r, 1+r.Intn(16), 64, r.Float64()), randomDeterministic(r, 256, 1+r.Intn(5), 0.7))
		}
	}
	return list
}

// randomSet returns a set of states of g, each with the same probability.
func randomSet(r *rand.Rand, g api.Graph) []int {
	probability := 1.3*r.Float64() - 0.1
	var set []int
	for s := range g.States {
		if r.Float64() < probability {
			set = append(set, s)
		}
	}
	return set
}

// all returns the set of all states of g.
func all(g api.Graph) []int {
	var set []int
	for s := range g.States {
		set = append(set, s)
	}
	return set
}

// copied returns a graph with the same edges in other memory.
func copied(g api.Graph) api.Graph {
	g.Edges = slices.Clone(g.Edges)
	return g
}

// isSame returns whether two graphs are equal, by the definition.
func isSame(a, b api.Graph) bool {
	if a.Labels != b.Labels || a.States != b.States || len(a.Edges) != len(b.Edges) {
		return false
	}
	for i := range a.Edges {
		if a.Edges[i] != b.Edges[i] {
			return false
		}
	}
	return true
}

// isZero returns whether g is the zero value.
func isZero(g api.Graph) bool {
	return g.Labels == 0 && g.States == 0 && len(g.Edges) == 0
}

// isValid returns whether g is valid, by the definition.
func isValid(g api.Graph) bool {
	if g.Labels < 1 || g.Labels > 256 || g.States < 0 || g.States > 64 || len(g.Edges) > 1024 {
		return false
	}
	for i, edge := range g.Edges {
		if edge.From < 0 || edge.From >= g.States || edge.Label < 0 || edge.Label >= g.Labels || edge.To < 0 || edge.To >= g.States {
			return false
		}
		// Numbers are at most 255 here, so their digits to the base 256 are those of a number.
		if i > 0 && place(g.Edges[i-1]) >= place(edge) {
			return false
		}
	}
	return true
}

// place returns a number by which edges of a valid graph are ordered.
func place(edge api.Edge) int {
	return edge.From<<16 + edge.Label<<8 + edge.To
}

// fault is a graph that is not valid, with the error of Check.
type fault struct {
	g api.Graph
	e api.Errno
}

// faults returns graphs that are not valid: each error alone, behind edges without one, and several errors.
func faults() []fault {
	list := []fault{
		{api.Graph{}, api.ErrAlphabet}, {of(2, -1), api.ErrRange}, {of(2, math.MinInt), api.ErrRange}, {of(2, 65), api.ErrLimit}, {of(2, 66), api.ErrLimit}, {of(2, math.MaxInt), api.ErrLimit}, {of(256, 1<<32), api.ErrLimit},
		{of(1, 0, 0, 0, 0), api.ErrRange}, {of(2, 2, 0, 1, 1, 0, 0, 0), api.ErrOrder}, {of(2, 2, 0, 0, 0, 0, 0, 0), api.ErrOrder}, {of(2, 2, 1, 0, 0, 0, 1, 1), api.ErrOrder}, {of(2, 2, 0, 0, 1, 0, 0, 0), api.ErrOrder},
		{of(2, 3, 0, 0, 0, 0, 1, 1, 1, 0, 2, 1, 0, 2), api.ErrOrder}, {of(2, 3, 0, 0, 2, 0, 1, 0, 0, 0, 1), api.ErrOrder}, {of(2, 3, 0, 1, 2, 1, 0, 0, 0, 0, 1), api.ErrOrder}, {of(2, 3, 2, 0, 0, 1, 1, 2), api.ErrOrder},
	}
	for _, labels := range []int{0, -1, -2, -256, 257, 258, 1 << 16, 1 << 32, 1<<32 + 1, math.MaxInt, math.MinInt, math.MinInt + 1} {
		list = append(list, fault{of(labels, 2), api.ErrAlphabet}, fault{of(labels, 2, 0, 0, 0), api.ErrAlphabet}, fault{of(labels, -1), api.ErrAlphabet}, fault{of(labels, 65), api.ErrAlphabet}, fault{of(labels, 0, 5, 5, 5), api.ErrAlphabet})
	}
	for _, n := range []int{-1, -2, math.MinInt, math.MinInt + 1, 3, 4, 64, 256, 1 << 32, math.MaxInt, math.MaxInt - 1} {
		for i := range 3 {
			numbers := []int{1, 1, 1}
			numbers[i] = n
			last := edges(numbers...)[0]
			g := of(3, 3, 0, 1, 2)
			list = append(list, fault{api.Graph{Labels: 3, States: 3, Edges: []api.Edge{last}}, api.ErrRange}, fault{api.Graph{Labels: 3, States: 3, Edges: append(g.Edges, last)}, api.ErrRange}, fault{api.Graph{Labels: 3, States: 3, Edges: append([]api.Edge{last}, g.Edges...)}, api.ErrRange})
		}
	}
	return append(list, severalFaults()...)
}

// severalFaults returns graphs with too many edges, and graphs with several errors.
func severalFaults() []fault {
	more := full()
	more.Edges = append(more.Edges, api.Edge{From: 63, Label: 255, To: 63})
	wrong := copied(more)
	wrong.Edges[0].From = -1
	equal := make([]api.Edge, api.MaxEdge+1)
	return []fault{
		{more, api.ErrLimit}, {wrong, api.ErrLimit}, {api.Graph{Labels: 2, States: 2, Edges: equal}, api.ErrLimit}, {api.Graph{Labels: 2, States: 2, Edges: equal[1:]}, api.ErrOrder},
		{api.Graph{Labels: 2, States: 0, Edges: equal}, api.ErrLimit}, {api.Graph{Labels: 2, States: 0, Edges: equal[1:]}, api.ErrRange},
		{api.Graph{Labels: 0, States: 2, Edges: equal}, api.ErrAlphabet}, {api.Graph{Labels: 2, States: -1, Edges: equal}, api.ErrRange}, {api.Graph{Labels: 2, States: 65, Edges: equal[:1]}, api.ErrLimit},
		{of(2, -1, 0, 0, 0), api.ErrRange}, {of(2, 65, 0, 2, 0), api.ErrLimit}, {of(2, 65, 0, 1, 0, 0, 0, 0), api.ErrLimit},
		// The first edge with an error decides; numbers come before the order.
		{of(2, 2, 0, 1, 0, 0, 0, 0, 2, 0, 0), api.ErrOrder}, {of(2, 2, 2, 0, 0, 0, 1, 0, 0, 0, 0), api.ErrRange}, {of(2, 2, 0, 1, 0, -1, 0, 0), api.ErrRange}, {of(2, 2, 1, 0, 0, 0, 2, 0), api.ErrRange}, {of(2, 2, 1, 0, 0, 0, 0, -1), api.ErrRange}, {of(2, 2, 0, 0, 2, 0, 0, 2), api.ErrRange},
	}
}

// noStates are numbers that are no states of g.
func noStates(g api.Graph) []int {
	return []int{-1, -2, math.MinInt, math.MinInt + 1, g.States, g.States + 1, 64, 65, 1 << 32, math.MaxInt - 1, math.MaxInt}
}

// noLabels are numbers that are no labels of g.
func noLabels(g api.Graph) []int {
	return []int{-1, -2, math.MinInt, math.MinInt + 1, g.Labels, g.Labels + 1, 256, 257, 1 << 32, math.MaxInt - 1, math.MaxInt}
}

// stepOf returns the step of a set in a valid graph.
func stepOf(t *testing.T, g api.Graph, set []int, label int) []int {
	t.Helper()
	to, e := graph.Step(g, set, label)
	if e != api.OK {
		t.Fatalf("P9.1: Step %v, %v, %d: %d", g, set, label, e)
	}
	return to
}

// keepOf returns the part of a valid graph on a set.
func keepOf(t *testing.T, g api.Graph, set []int) api.Graph {
	t.Helper()
	p, e := graph.Keep(g, set)
	if e != api.OK {
		t.Fatalf("P9.5: Keep %v, %v: %d", g, set, e)
	}
	return p
}

// reverseOf returns the reversed graph of a valid graph.
func reverseOf(t *testing.T, g api.Graph) api.Graph {
	t.Helper()
	r, e := graph.Reverse(g)
	if e != api.OK {
		t.Fatalf("P9.3: Reverse %v: %d", g, e)
	}
	return r
}

// essentialOf returns the essential part of a valid graph, and the set of its essential states.
func essentialOf(t *testing.T, g api.Graph) (api.Graph, []int) {
	t.Helper()
	p, set, e := graph.Essential(g)
	if e != api.OK {
		t.Fatalf("P9.4: Essential %v: %d", g, e)
	}
	return p, set
}

// deterministicOf returns whether a valid graph is deterministic.
func deterministicOf(t *testing.T, g api.Graph) bool {
	t.Helper()
	is, e := graph.Deterministic(g)
	if e != api.OK {
		t.Fatalf("P9.6: Deterministic %v: %d", g, e)
	}
	return is
}

// printOf returns the text of a valid graph.
func printOf(t *testing.T, g api.Graph) string {
	t.Helper()
	s, e := graph.Print(g)
	if e != api.OK {
		t.Fatalf("P9.7: Print %v: %d", g, e)
	}
	return s
}
