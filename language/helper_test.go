package language_test

import (
	"math"
	"math/rand"
	"slices"
	"strings"
	"testing"

	"groove/api"
	"groove/graph"
	"groove/language"
)

const letters = "0123456789abcdef"

// of returns the graph with some labels and states, and the edges whose numbers follow each other: from, label, to.
func of(labels, states int, numbers ...int) api.Graph {
	var edges []api.Edge
	for i := 0; i < len(numbers); i += 3 {
		edges = append(edges, api.Edge{From: numbers[i], Label: numbers[i+1], To: numbers[i+2]})
	}
	g, e := graph.Make(labels, states, edges)
	if e != api.OK {
		panic(e)
	}
	return g
}

// golden returns the graph whose words have no two letters 1 in a row.
func golden() api.Graph { return of(2, 2, 0, 0, 0, 0, 1, 1, 1, 0, 0) }

// full returns the graph of all words over q letters.
func full(q int) api.Graph { return chain(q, 1, true) }

// line returns the path through n states, from each of which some of q labels lead to the next one.
func line(q, n int, labels ...int) api.Graph {
	var numbers []int
	for s := range n - 1 {
		for _, label := range labels {
			numbers = append(numbers, s, label, s+1)
		}
	}
	return of(q, n, numbers...)
}

// chain returns the path through n states, from each of which all of q labels lead to the next one, and from the last one to itself, if it goes on.
func chain(q, n int, goesOn bool) api.Graph {
	var labels []int
	for label := range q {
		labels = append(labels, label)
	}
	g := line(q, n, labels...)
	for label := range q {
		if goesOn {
			g.Edges = append(g.Edges, api.Edge{From: n - 1, Label: label, To: n - 1})
		}
	}
	return g
}

// stairs returns the graph whose words have no letter 0 behind a letter 1: there are n + 1 of n letters.
func stairs() api.Graph { return of(2, 2, 0, 0, 0, 0, 1, 1, 1, 1, 1) }

// without returns the graph of all words over q letters that do not contain a word, which is not empty: the states are the numbers of letters of it that have been read.
func without(q int, w string) api.Graph {
	var numbers []int
	for s := range len(w) {
		for label := range q {
			read := w[:s] + letters[label:label+1]
			to := len(read)
			for !strings.HasPrefix(w, read[len(read)-to:]) {
				to--
			}
			if to < len(w) {
				numbers = append(numbers, s, label, to)
			}
		}
	}
	return of(q, len(w), numbers...)
}

// beside returns the graph that consists of two graphs with equally many labels, the states of the second one behind those of the first one.
func beside(a, b api.Graph) api.Graph {
	edges := slices.Clone(a.Edges)
	for _, edge := range b.Edges {
		edges = append(edges, api.Edge{From: edge.From + a.States, Label: edge.Label, To: edge.To + a.States})
	}
	g, e := graph.Make(a.Labels, a.States+b.States, edges)
	if e != api.OK {
		panic(e)
	}
	return g
}

// subgraphs returns all graphs with some labels and states.
func subgraphs(labels, states int) []api.Graph {
	var list []api.Graph
	for bits := range 1 << (labels * states * states) {
		g := api.Graph{Labels: labels, States: states}
		for i := range labels * states * states {
			if bits>>i&1 == 1 {
				g.Edges = append(g.Edges, api.Edge{From: i / (labels * states), Label: i / states % labels, To: i % states})
			}
		}
		list = append(list, g)
	}
	return list
}

// random returns a graph with some labels, states and edges, some of which may be equal.
func random(r *rand.Rand, labels, states, edges int) api.Graph {
	var numbers []int
	for range edges {
		numbers = append(numbers, r.Intn(states), r.Intn(labels), r.Intn(states))
	}
	return of(labels, states, numbers...)
}

// samples returns valid graphs of all kinds: all small ones, and random ones, with few and many edges and states.
func samples(seed int64) []api.Graph {
	r := rand.New(rand.NewSource(seed))
	list := slices.Concat(subgraphs(1, 0), subgraphs(3, 0), subgraphs(16, 0), subgraphs(1, 1), subgraphs(3, 1), subgraphs(1, 2), subgraphs(2, 2), subgraphs(1, 3))
	list = append(list, golden(), stairs(), full(16), of(16, 1), of(3, 64), chain(2, 5, false), chain(2, 5, true), without(2, "011"), beside(golden(), stairs()))
	for i := range 150 {
		states := 1 + r.Intn(8)
		list = append(list, random(r, 2, states, r.Intn(1+3*states)), random(r, 1+r.Intn(4), states, r.Intn(1+4*states)))
		if i%10 == 0 {
			list = append(list, random(r, 2, 64, 60+r.Intn(100)), random(r, 3, 64, 300+r.Intn(700)), random(r, 16, 1+r.Intn(64), 100), random(r, 16, 64, 1024))
		}
	}
	return list
}

// depth returns a number of letters up to which all words over as many letters as g has labels can be looked at.
func depth(g api.Graph) int {
	return []int{0, 6, 5, 4, 3, 2}[min(g.Labels, 5)]
}

// all returns all words of n letters over q letters.
func all(q, n int) []string {
	list := []string{""}
	for range n {
		var longer []string
		for _, w := range list {
			for label := range q {
				longer = append(longer, w+letters[label:label+1])
			}
		}
		list = longer
	}
	return list
}

// upTo returns all words of at most n letters over q letters, in their order.
func upTo(q, n int) []string {
	var list []string
	for length := range n + 1 {
		list = append(list, all(q, length)...)
	}
	return list
}

// table tells which states a word leads to: the bit t of the number at s is 1 if one of the paths that are labelled with it leads from s to t.
type table []uint64

// tableOf returns the table of a word: the product of those of its letters, which are given by the edges.
func tableOf(g api.Graph, w string) table {
	product := make(table, g.States)
	for s := range product {
		product[s] = 1 << s
	}
	for _, letter := range w {
		label := strings.IndexRune(letters, letter)
		for s, ends := range product {
			product[s] = 0
			for _, edge := range g.Edges {
				if edge.Label == label && ends>>edge.From&1 == 1 {
					product[s] |= 1 << edge.To
				}
			}
		}
	}
	return product
}

// has returns whether the word leads from s to t.
func (a table) has(s, t int) bool { return a[s]>>t&1 == 1 }

// isWord returns whether the word leads from any state to any state.
func (a table) isWord() bool {
	return slices.ContainsFunc(a, func(ends uint64) bool { return ends != 0 })
}

// chosen returns the words for whose tables a function returns true.
func chosen(tables map[string]table, words []string, is func(a table) bool) []string {
	var list []string
	for _, w := range words {
		if is(tables[w]) {
			list = append(list, w)
		}
	}
	return list
}

// tablesOf returns the tables of some words.
func tablesOf(g api.Graph, words []string) map[string]table {
	tables := map[string]table{}
	for _, w := range words {
		tables[w] = tableOf(g, w)
	}
	return tables
}

// states returns the states of g.
func states(g api.Graph) []int {
	var list []int
	for s := range g.States {
		list = append(list, s)
	}
	return list
}

// randomSet returns some of the states of g.
func randomSet(r *rand.Rand, g api.Graph) []int {
	return slices.DeleteFunc(states(g), func(s int) bool { return r.Intn(2) == 0 })
}

// accepts returns whether w is a word of g, for which there is no error.
func accepts(t *testing.T, g api.Graph, w string) bool {
	t.Helper()
	is, e := language.Accepts(g, w)
	if e != api.OK {
		t.Fatalf("P11.1: Accepts %v, %q: %d", g, short(w), e)
	}
	return is
}

// endsOf returns the ends of the paths labelled w from a set, for which there is no error.
func endsOf(t *testing.T, g api.Graph, set []int, w string) []int {
	t.Helper()
	ends, e := language.Ends(g, set, w)
	if e != api.OK {
		t.Fatalf("P11.1: Ends %v, %v, %q: %d", g, set, short(w), e)
	}
	return ends
}

// lettersOf returns the letters that can follow w, for which there is no error.
func lettersOf(t *testing.T, g api.Graph, w string) string {
	t.Helper()
	following, e := language.Letters(g, w)
	if e != api.OK {
		t.Fatalf("P11.5: Letters %v, %q: %d", g, short(w), e)
	}
	return following
}

// wordsOf returns the words of g of n letters, for which there is no error.
func wordsOf(t *testing.T, g api.Graph, n int) []string {
	t.Helper()
	list, e := language.Words(g, n)
	if e != api.OK {
		t.Fatalf("P11.3: Words %v, %d: %d", g, n, e)
	}
	return list
}

// fromOf returns the words of n letters from a state, for which there is no error.
func fromOf(t *testing.T, g api.Graph, s, n int) []string {
	t.Helper()
	list, e := language.From(g, s, n)
	if e != api.OK {
		t.Fatalf("P11.3: From %v, %d, %d: %d", g, s, n, e)
	}
	return list
}

// betweenOf returns the words of n letters from a state to a state, for which there is no error.
func betweenOf(t *testing.T, g api.Graph, s, u, n int) []string {
	t.Helper()
	list, e := language.Between(g, s, u, n)
	if e != api.OK {
		t.Fatalf("P11.3: Between %v, %d, %d, %d: %d", g, s, u, n, e)
	}
	return list
}

// short returns the beginning of a word that is too long for a message.
func short(w string) string { return w[:min(len(w), 40)] }

// noStates are numbers that are no states of g.
func noStates(g api.Graph) []int {
	list := []int{-1, -2, -64, math.MinInt, math.MinInt + 1, g.States, g.States + 1, 64, 65, 128, 1 << 32, math.MaxInt - 1, math.MaxInt}
	return slices.DeleteFunc(list, func(s int) bool { return s >= 0 && s < g.States })
}

// noLengths are numbers of letters that are too small or too great.
func noLengths() []int {
	return []int{-1, -2, -4096, math.MinInt, math.MinInt + 1, api.MaxPower + 1, api.MaxPower + 2, api.MaxWord, 1 << 32, 1<<32 + 1, math.MaxInt - 1, math.MaxInt}
}

// faults returns graphs that are not valid: wrong labels, states, edges, orders and numbers of edges.
func faults() []api.Graph {
	edge := func(from, label, to int) api.Edge { return api.Edge{From: from, Label: label, To: to} }
	list := []api.Graph{
		{}, {Labels: 1, States: 1, Edges: make([]api.Edge, 2)}, {Labels: 1, States: 1, Edges: make([]api.Edge, api.MaxEdge+1)}, {Labels: 2, States: 0, Edges: []api.Edge{edge(0, 0, 0)}},
		{Labels: 1, States: 2, Edges: []api.Edge{edge(1, 0, 0), edge(0, 0, 1)}}, {Labels: 2, States: 2, Edges: []api.Edge{edge(0, 1, 1), edge(0, 0, 1), edge(1, 0, 0)}}, {Labels: 1, States: 2, Edges: []api.Edge{edge(0, 0, 1), edge(0, 0, 0), edge(1, 0, 0)}},
		{Labels: 17, States: 2, Edges: []api.Edge{edge(1, 0, 0), edge(0, 0, 1)}}, {Labels: 256, States: 2, Edges: []api.Edge{edge(0, 256, 0)}},
	}
	for _, labels := range []int{0, -1, -2, 257, 1 << 32, math.MinInt, math.MaxInt} {
		list = append(list, api.Graph{Labels: labels}, api.Graph{Labels: labels, States: 1, Edges: []api.Edge{edge(0, 0, 0)}})
	}
	for _, n := range []int{-1, 65, 1 << 32, math.MinInt, math.MaxInt} {
		list = append(list, api.Graph{Labels: 2, States: n}, api.Graph{Labels: 2, States: n, Edges: []api.Edge{edge(0, 0, 0)}})
	}
	for _, n := range []int{-1, -2, 2, 3, 64, 1 << 32, math.MinInt, math.MaxInt} {
		list = append(list, api.Graph{Labels: 2, States: 2, Edges: []api.Edge{edge(n, 0, 0)}}, api.Graph{Labels: 2, States: 2, Edges: []api.Edge{edge(0, n, 0)}}, api.Graph{Labels: 2, States: 2, Edges: []api.Edge{edge(0, 0, 0), edge(1, 1, n)}})
	}
	return list
}
