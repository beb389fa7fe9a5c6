package language_test

import (
	"math"
	"math/rand"
	"slices"
	"strings"
	"testing"

	"groove/api"
	"groove/language"
	"groove/samples"
)

const letters = "0123456789abcdef"

// full returns the graph of all words over q letters.
func full(q int) api.Graph { return chain(q, 1, true) }

// line returns the path through n states, from each of which some of q labels lead to the next one.
func line(q, n int, labels ...int) api.Graph {
	var numbers []int
	for s := range n - 1 {
		for _, label := range labels {
			numbers = append(numbers, s, label, s+1)
		}
	}
	return samples.Of(q, n, numbers...)
}

// chain returns the path through n states, from each of which all of q labels lead to the next one, and from the last one to itself, if it goes on.
func chain(q, n int, goesOn bool) api.Graph {
	var labels []int
	for label := range q {
		labels = append(labels, label)
	}
	g := line(q, n, labels...)
	for label := range q {
		if goesOn {
			g.Edges = append(g.Edges, api.Edge{From: n - 1, Label: label, To: n - 1})
		}
	}
	return g
}

// without returns the graph of all words over q letters that do not contain a word, which is not empty: the states are the numbers of letters of it that have been read.
func without(q int, w string) api.Graph {
	var numbers []int
	for s := range len(w) {
		for label := range q {
			read := w[:s] + letters[label:label+1]
			to := len(read)
			for !strings.HasPrefix(w, read[len(read)-to:]) {
				to--
			}
			if to < len(w) {
				numbers = append(numbers, s, label, to)
			}
		}
	}
	return samples.Of(q, len(w), numbers...)
}

// graphs returns valid graphs of all kinds: all small ones, and random ones, with few and many edges and states.
func graphs(seed int64) []api.Graph {
	r := rand.New(rand.NewSource(seed))
	list := slices.Concat(samples.Subgraphs(1, 0), samples.Subgraphs(3, 0), samples.Subgraphs(16, 0), samples.Subgraphs(1, 1), samples.Subgraphs(3, 1), samples.Subgraphs(1, 2), samples.Subgraphs(2, 2), samples.Subgraphs(1, 3))
	list = append(list, samples.Golden(), samples.Stairs(), full(16), samples.Of(16, 1), samples.Of(3, 64), chain(2, 5, false), chain(2, 5, true), without(2, "011"), samples.Beside(samples.Golden(), samples.Stairs()))
	for i := range 150 {
		states := 1 + r.Intn(8)
		list = append(list, samples.Random(r, 2, states, r.Intn(1+3*states)), samples.Random(r, 1+r.Intn(4), states, r.Intn(1+4*states)))
		if i%10 == 0 {
			list = append(list, samples.Random(r, 2, 64, 60+r.Intn(100)), samples.Random(r, 3, 64, 300+r.Intn(700)), samples.Random(r, 16, 1+r.Intn(64), 100), samples.Random(r, 16, 64, 1024))
		}
	}
	return list
}

// depth returns a number of letters up to which all words over as many letters as g has labels can be looked at.
func depth(g api.Graph) int {
	return []int{0, 6, 5, 4, 3, 2}[min(g.Labels, 5)]
}

// table tells which states a word leads to: the bit t of the number at s is 1 if one of the paths that are labelled with it leads from s to t.
type table []uint64

// tableOf returns the table of a word: the product of those of its letters, which are given by the edges.
func tableOf(g api.Graph, w string) table {
	product := make(table, g.States)
	for s := range product {
		product[s] = 1 << s
	}
	for _, letter := range w {
		label := strings.IndexRune(letters, letter)
		for s, ends := range product {
			product[s] = 0
			for _, edge := range g.Edges {
				if edge.Label == label && ends>>edge.From&1 == 1 {
					product[s] |= 1 << edge.To
				}
			}
		}
	}
	return product
}

// has returns whether the word leads from s to t.
func (a table) has(s, t int) bool { return a[s]>>t&1 == 1 }

// isWord returns whether the word leads from any state to any state.
func (a table) isWord() bool {
	return slices.ContainsFunc(a, func(ends uint64) bool { return ends != 0 })
}

// chosen returns the words for whose tables a function returns true.
func chosen(tables map[string]table, words []string, is func(a table) bool) []string {
	var list []string
	for _, w := range words {
		if is(tables[w]) {
			list = append(list, w)
		}
	}
	return list
}

// tablesOf returns the tables of some words.
func tablesOf(g api.Graph, words []string) map[string]table {
	tables := map[string]table{}
	for _, w := range words {
		tables[w] = tableOf(g, w)
	}
	return tables
}

// randomSet returns some of the states of g.
func randomSet(r *rand.Rand, g api.Graph) []int {
	return slices.DeleteFunc(samples.All(g), func(s int) bool { return r.Intn(2) == 0 })
}

// accepts returns whether w is a word of g, for which there is no error.
func accepts(t *testing.T, g api.Graph, w string) bool {
	t.Helper()
	is, e := language.Accepts(g, w)
	if e != api.OK {
		t.Fatalf("P11.1: Accepts %v, %q: %d", g, short(w), e)
	}
	return is
}

// endsOf returns the ends of the paths labelled w from a set, for which there is no error.
func endsOf(t *testing.T, g api.Graph, set []int, w string) []int {
	t.Helper()
	ends, e := language.Ends(g, set, w)
	if e != api.OK {
		t.Fatalf("P11.1: Ends %v, %v, %q: %d", g, set, short(w), e)
	}
	return ends
}

// lettersOf returns the letters that can follow w, for which there is no error.
func lettersOf(t *testing.T, g api.Graph, w string) string {
	t.Helper()
	following, e := language.Letters(g, w)
	if e != api.OK {
		t.Fatalf("P11.5: Letters %v, %q: %d", g, short(w), e)
	}
	return following
}

// wordsOf returns the words of g of n letters, for which there is no error.
func wordsOf(t *testing.T, g api.Graph, n int) []string {
	t.Helper()
	list, e := language.Words(g, n)
	if e != api.OK {
		t.Fatalf("P11.3: Words %v, %d: %d", g, n, e)
	}
	return list
}

// fromOf returns the words of n letters from a state, for which there is no error.
func fromOf(t *testing.T, g api.Graph, s, n int) []string {
	t.Helper()
	list, e := language.From(g, s, n)
	if e != api.OK {
		t.Fatalf("P11.3: From %v, %d, %d: %d", g, s, n, e)
	}
	return list
}

// betweenOf returns the words of n letters from a state to a state, for which there is no error.
func betweenOf(t *testing.T, g api.Graph, s, u, n int) []string {
	t.Helper()
	list, e := language.Between(g, s, u, n)
	if e != api.OK {
		t.Fatalf("P11.3: Between %v, %d, %d, %d: %d", g, s, u, n, e)
	}
	return list
}

// short returns the beginning of a word that is too long for a message.
func short(w string) string { return w[:min(len(w), 40)] }

// noStates are numbers that are no states of g.
func noStates(g api.Graph) []int {
	list := []int{-1, -2, -64, math.MinInt, math.MinInt + 1, g.States, g.States + 1, 64, 65, 128, 1 << 32, math.MaxInt - 1, math.MaxInt}
	return slices.DeleteFunc(list, func(s int) bool { return s >= 0 && s < g.States })
}

// noLengths are numbers of letters that are too small or too great.
func noLengths() []int {
	return []int{-1, -2, -4096, math.MinInt, math.MinInt + 1, api.MaxPower + 1, api.MaxPower + 2, api.MaxWord, 1 << 32, 1<<32 + 1, math.MaxInt - 1, math.MaxInt}
}
