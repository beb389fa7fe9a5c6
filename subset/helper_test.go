package subset_test

import (
	"math"
	"math/rand"
	"slices"
	"testing"

	"groove/api"
	"groove/graph"
	"groove/subset"
)

// of returns the graph with some labels and states, and the edges whose numbers follow each other: from, label, to.
func of(labels, states int, numbers ...int) api.Graph {
	var edges []api.Edge
	for i := 0; i < len(numbers); i += 3 {
		edges = append(edges, api.Edge{From: numbers[i], Label: numbers[i+1], To: numbers[i+2]})
	}
	return made(labels, states, edges)
}

// made returns the graph with some labels, states and edges, which may stand in any order.
func made(labels, states int, edges []api.Edge) api.Graph {
	g, e := graph.Make(labels, states, edges)
	if e != api.OK {
		panic(e)
	}
	return g
}

// even returns the even shift of the chapter's example: between two labels 1 there is an even number of labels 0.
func even() api.Graph { return of(2, 2, 0, 0, 1, 0, 1, 0, 1, 0, 0) }

// golden returns the graph whose words have no two labels 1 in a row.
func golden() api.Graph { return of(2, 2, 0, 0, 0, 0, 1, 1, 1, 0, 0) }

// whole returns the graph with one state in which all paths with some labels go on.
func whole(labels int) api.Graph { return with(api.Graph{Labels: labels, States: 1}, 0, labels, 0, 0) }

// line returns the path through n states with the label 0, and further edges.
func line(labels, n int, numbers ...int) api.Graph {
	edges := of(labels, n, numbers...).Edges
	for s := range n - 1 {
		edges = append(edges, api.Edge{From: s, To: s + 1})
	}
	return made(labels, n, edges)
}

// cycles returns cycles of some lengths beside each other, with the label 0, the states of each behind those of the one before.
func cycles(lengths ...int) api.Graph {
	var edges []api.Edge
	first := 0
	for _, n := range lengths {
		for s := range n {
			edges = append(edges, api.Edge{From: first + s, To: first + (s+1)%n})
		}
		first += n
	}
	return made(1, first, edges)
}

// with returns g with the edges from some states to themselves, with all labels from one on that are less than another one.
func with(g api.Graph, from, to int, states ...int) api.Graph {
	edges := slices.Clone(g.Edges)
	for label := from; label < to; label++ {
		for _, s := range states {
			edges = append(edges, api.Edge{From: s, Label: label, To: s})
		}
	}
	return made(g.Labels, g.States, edges)
}

// subgraphs returns all graphs with some labels and states.
func subgraphs(labels, states int) []api.Graph {
	var list []api.Graph
	for bits := range 1 << (labels * states * states) {
		var edges []api.Edge
		for i := range labels * states * states {
			if bits>>i&1 == 1 {
				edges = append(edges, api.Edge{From: i / (labels * states), Label: i / states % labels, To: i % states})
			}
		}
		list = append(list, made(labels, states, edges))
	}
	return list
}

// random returns a graph with some labels, states and edges, some of which may be equal.
func random(r *rand.Rand, labels, states, edges int) api.Graph {
	var list []api.Edge
	for range edges {
		list = append(list, api.Edge{From: r.Intn(states), Label: r.Intn(labels), To: r.Intn(states)})
	}
	return made(labels, states, list)
}

// randomDeterministic returns a graph with one edge for each state and label, or none with some probability.
func randomDeterministic(r *rand.Rand, labels, states int, none float64) api.Graph {
	var list []api.Edge
	for s := range states {
		for label := range labels {
			if r.Float64() >= none {
				list = append(list, api.Edge{From: s, Label: label, To: r.Intn(states)})
			}
		}
	}
	return made(labels, states, list)
}

// small returns all small graphs, and random ones with at most 5 states and 3 labels.
func small(seed int64) []api.Graph {
	r := rand.New(rand.NewSource(seed))
	list := slices.Concat(subgraphs(1, 0), subgraphs(3, 0), subgraphs(1, 1), subgraphs(3, 1), subgraphs(1, 2), subgraphs(2, 2), subgraphs(1, 3))
	list = append(list, even(), golden(), of(2, 4), line(2, 4, 3, 1, 0), line(1, 5), cycles(2, 3))
	for range 300 {
		states := 1 + r.Intn(5)
		list = append(list, random(r, 2, states, r.Intn(1+3*states)), random(r, 1+r.Intn(3), states, r.Intn(1+4*states)), randomDeterministic(r, 1+r.Intn(3), states, 0.5*r.Float64()))
	}
	return list
}

// large returns graphs with many states, labels and edges, for some of which the limits are exceeded.
func large(seed int64) []api.Graph {
	r := rand.New(rand.NewSource(seed))
	list := []api.Graph{
		of(256, 0), of(256, 1), of(1, 64), of(256, 64), whole(1), whole(16), whole(256), line(1, 64), line(2, 64, 63, 1, 0), cycles(64), cycles(7, 8), cycles(3, 5, 7), cycles(2, 3, 5, 7, 11),
		of(256, 64, 0, 255, 63), of(256, 64, 0, 255, 63, 63, 0, 0, 63, 255, 63), with(of(256, 4), 0, 256, 0, 1, 2, 3),
	}
	for range 25 {
		states := 6 + r.Intn(59)
		list = append(list, random(r, 2, 6, 10), random(r, 2, 8, 12), random(r, 3, 64, 64+r.Intn(64)), random(r, 2, states, states), random(r, 16, states, 1000), random(r, 256, states, 1024))
		list = append(list, randomDeterministic(r, 2, 8, 0.3), randomDeterministic(r, 3, states, 0.5), randomDeterministic(r, 16, states, 0.3), randomDeterministic(r, 256, 4, 0.1))
	}
	return list
}

// all returns the set of all states of g.
func all(g api.Graph) []int {
	var set []int
	for s := range g.States {
		set = append(set, s)
	}
	return set
}

// subsets returns all sets of states of g but the empty one.
func subsets(g api.Graph) [][]int {
	var list [][]int
	for bits := 1; bits < 1<<g.States; bits++ {
		list = append(list, slices.DeleteFunc(all(g), func(s int) bool { return bits>>s&1 == 0 }))
	}
	return list
}

// randomSet returns some of the states of a graph with a state, at least one.
func randomSet(r *rand.Rand, g api.Graph) []int {
	probability, one := r.Float64(), r.Intn(g.States)
	return slices.DeleteFunc(all(g), func(s int) bool { return s != one && r.Float64() < probability })
}

// step returns the states to which edges with a label lead from states of a set, in ascending order, by the definition.
func step(g api.Graph, set []int, label int) []int {
	var to []int
	for _, edge := range g.Edges {
		if edge.Label == label && slices.Contains(set, edge.From) {
			to = append(to, edge.To)
		}
	}
	slices.Sort(to)
	return slices.Compact(to)
}

// ends returns the states in which the paths with some labels end that begin in a state of a set, in ascending order.
func ends(g api.Graph, set, labels []int) []int {
	for _, label := range labels {
		set = step(g, set, label)
	}
	return set
}

// lists returns all lists of n labels of g, lexicographically.
func lists(g api.Graph, n int) [][]int {
	list := [][]int{nil}
	for range n {
		var longer [][]int
		for _, labels := range list {
			for label := range g.Labels {
				longer = append(longer, append(slices.Clone(labels), label))
			}
		}
		list = longer
	}
	return list
}

// key returns a string that belongs to this list of small numbers only.
func key(list []int) string {
	var text []byte
	for _, n := range list {
		text = append(text, byte(n))
	}
	return string(text)
}

// isGraph returns whether two graphs are equal.
func isGraph(a, b api.Graph) bool {
	return a.Labels == b.Labels && a.States == b.States && slices.Equal(a.Edges, b.Edges)
}

// isZero returns whether g is the zero value.
func isZero(g api.Graph) bool { return isGraph(g, api.Graph{}) }

// isSame returns whether two lists of lists are equal.
func isSame(a, b [][]int) bool { return slices.EqualFunc(a, b, slices.Equal) }

// buildOf returns the graph of sets, for which there is no error.
func buildOf(t *testing.T, g api.Graph) (api.Graph, [][]int) {
	t.Helper()
	h, sets, e := subset.Build(g)
	if e != api.OK {
		t.Fatalf("P12.1: Build %v: %d", g, e)
	}
	return h, sets
}

// fromOf returns the graph of sets from a set on, for which there is no error.
func fromOf(t *testing.T, g api.Graph, set []int) (api.Graph, [][]int) {
	t.Helper()
	h, sets, e := subset.From(g, set)
	if e != api.OK {
		t.Fatalf("P12.1: From %v, %v: %d", g, set, e)
	}
	return h, sets
}

// focusOf returns the first focus, its state and whether there is one; there is no error.
func focusOf(t *testing.T, g api.Graph) ([]int, int, bool) {
	t.Helper()
	focus, s, is, e := subset.Focus(g)
	if e != api.OK || !is && (len(focus) > 0 || s != 0) {
		t.Fatalf("P12.1: Focus %v: %v, %d, %t, %d", g, focus, s, is, e)
	}
	return focus, s, is
}

// countOf returns the number of words, for which there is no error.
func countOf(t *testing.T, g api.Graph, n int) api.Int {
	t.Helper()
	number, e := subset.Count(g, n)
	if e != api.OK {
		t.Fatalf("P12.1: Count %v, %d: %d", g, n, e)
	}
	return number
}

// completeOf returns the automaton and its further state, for which there is no error.
func completeOf(t *testing.T, g api.Graph) (api.Automaton, []int) {
	t.Helper()
	a, sink, e := subset.Complete(g)
	if e != api.OK {
		t.Fatalf("P12.1: Complete %v: %d", g, e)
	}
	return a, sink
}

// noNumbers are numbers that are too small or too great for everything.
func noNumbers() []int {
	return []int{-1, -2, -64, math.MinInt, math.MinInt + 1, 1 << 31, 1 << 32, 1<<32 + 1, math.MaxInt - 1, math.MaxInt}
}
