package power_test

import (
	"math/rand"
	"slices"
	"testing"

	"groove/api"
	"groove/graph"
	"groove/power"
	"groove/samples"
)

// letters are the letters of all alphabets.
const letters = api.Letters

// small returns small graphs.
func small(seed int64) []api.Graph { return samples.Small(rand.New(rand.NewSource(seed))) }

// large returns graphs with many states, labels and edges.
func large(seed int64) []api.Graph { return samples.Large(rand.New(rand.NewSource(seed))) }

// tiny returns all graphs with at most two states and two labels.
func tiny() []api.Graph {
	var list []api.Graph
	for states := range 3 {
		for labels := 1; labels <= 2; labels++ {
			list = append(list, samples.Subgraphs(labels, states)...)
		}
	}
	return list
}

// couples returns pairs of graphs with equally many labels: tiny ones, and random ones.
func couples(seed int64) [][2]api.Graph {
	r := rand.New(rand.NewSource(seed))
	var list [][2]api.Graph
	for _, g := range tiny() {
		for _, h := range tiny() {
			// All pairs with one label, or without states, and some of the many others.
			if g.Labels == h.Labels && (g.Labels == 1 || g.States+h.States < 3 || r.Intn(6) == 0) {
				list = append(list, [2]api.Graph{g, h})
			}
		}
	}
	for range 400 {
		labels, one, other := 1+r.Intn(3), 1+r.Intn(5), 1+r.Intn(5)
		list = append(list, [2]api.Graph{samples.Random(r, labels, one, r.Intn(4*one)), samples.Random(r, labels, other, r.Intn(4*other))})
	}
	for range 100 {
		labels, one, other := 1+r.Intn(40), 1+r.Intn(12), 1+r.Intn(12)
		list = append(list, [2]api.Graph{samples.Random(r, labels, one, r.Intn(100)), samples.Random(r, labels, other, r.Intn(100))})
	}
	return list
}

// raised returns the power n of a number, but no more than the first one that is greater than a limit.
func raised(q, n, limit int) int {
	number := 1
	for range n {
		if number <= limit {
			number *= q
		}
	}
	return number
}

// limited returns the graph with some labels, states and edges, each of which can be there twice, and OK, or ErrLimit if it has too many of them.
func limited(labels, states int, edges []api.Edge) (api.Graph, api.Errno) {
	set := map[api.Edge]bool{}
	for _, edge := range edges {
		set[edge] = true
	}
	if labels > api.MaxLabel || states > api.MaxState || len(set) > api.MaxEdge {
		return api.Graph{}, api.ErrLimit
	}
	return samples.Made(labels, states, edges), api.OK
}

// powerBy returns the power n of g, by the definition: all blocks are tried from all states.
func powerBy(g api.Graph, n int) (api.Graph, api.Errno) {
	if raised(g.Labels, n, api.MaxLabel) > api.MaxLabel {
		return api.Graph{}, api.ErrLimit
	}
	var edges []api.Edge
	blocks := samples.Lists(g.Labels, n)
	for number, block := range blocks {
		for s := range g.States {
			for _, t := range samples.Ends(g, []int{s}, block) {
				edges = append(edges, api.Edge{From: s, Label: number, To: t})
			}
		}
	}
	return limited(len(blocks), g.States, edges)
}

// productBy returns the product of two graphs, and its pairs, by the definition.
func productBy(g, h api.Graph) (api.Graph, [][]int, api.Errno) {
	var pairs [][]int
	number := map[[2]int]int{}
	for s := range g.States {
		for t := range h.States {
			number[[2]int{s, t}] = len(pairs)
			pairs = append(pairs, []int{s, t})
		}
	}
	var edges []api.Edge
	for _, one := range g.Edges {
		for _, other := range h.Edges {
			if one.Label == other.Label {
				edges = append(edges, api.Edge{From: number[[2]int{one.From, other.From}], Label: one.Label, To: number[[2]int{one.To, other.To}]})
			}
		}
	}
	all, e := limited(g.Labels, len(pairs), edges)
	if e != api.OK {
		return api.Graph{}, nil, e
	}
	belongs := essential(all)
	var kept [][]int
	var set []int
	for i, p := range pairs {
		if belongs[i] {
			kept, set = append(kept, p), append(set, i)
		}
	}
	part, e := graph.Keep(all, set)
	return part, kept, e
}

// essential returns which states of g are essential, by the definition: from a cycle a path leads to them, and from them to a cycle.
func essential(g api.Graph) []bool {
	forth := make([][]bool, g.States)
	for s := range forth {
		forth[s] = make([]bool, g.States)
	}
	for _, edge := range g.Edges {
		forth[edge.From][edge.To] = true
	}
	for k := range g.States {
		for i := range g.States {
			for j := range g.States {
				forth[i][j] = forth[i][j] || forth[i][k] && forth[k][j]
			}
		}
	}
	belongs := make([]bool, g.States)
	for s := range belongs {
		var from, to bool
		for c := range g.States {
			if forth[c][c] {
				from, to = from || c == s || forth[c][s], to || c == s || forth[s][c]
			}
		}
		belongs[s] = from && to
	}
	return belongs
}

// isEssential returns whether all states of g are essential.
func isEssential(g api.Graph) bool { return !slices.Contains(essential(g), false) }

// recodedBy returns the graph with some labels in which each label has become another one, by the definition.
func recodedBy(g api.Graph, labels int, l []int) api.Graph {
	var edges []api.Edge
	for _, edge := range g.Edges {
		edges = append(edges, api.Edge{From: edge.From, Label: l[edge.Label], To: edge.To})
	}
	return samples.Made(labels, g.States, edges)
}

// paths returns all paths of n edges, as lists of indices of edges, lexicographically, and whether there are at most MaxState of each number of edges up to n; if not, there are no paths in the list. Lists of one number, a state, are the paths without edges.
func paths(g api.Graph, n int) ([][]int, bool) {
	if n == 0 {
		var list [][]int
		for s := range g.States {
			list = append(list, []int{s})
		}
		return list, len(list) <= api.MaxState
	}
	list := [][]int{nil}
	for range n {
		var longer [][]int
		for i, edge := range g.Edges {
			for _, path := range list {
				if len(path) == 0 || g.Edges[path[len(path)-1]].To == edge.From {
					longer = append(longer, append(slices.Clone(path), i))
				}
			}
		}
		if list = longer; len(list) > api.MaxState {
			return nil, false
		}
	}
	slices.SortFunc(list, slices.Compare)
	return list, true
}

// higherBy returns the higher graph n of g, by the definition: each edge is tried behind each path.
func higherBy(g api.Graph, n int) (api.Graph, api.Errno) {
	list, is := paths(g, n)
	if !is {
		return api.Graph{}, api.ErrLimit
	}
	if n == 0 {
		return g, api.OK
	}
	number := map[string]int{}
	for i, path := range list {
		number[samples.Key(path)] = i
	}
	var edges []api.Edge
	for i, path := range list {
		for x, edge := range g.Edges {
			if edge.From != g.Edges[path[n-1]].To {
				continue
			}
			next := append(slices.Clone(path[1:]), x)
			edges = append(edges, api.Edge{From: i, Label: edge.Label, To: number[samples.Key(next)]})
		}
	}
	return limited(g.Labels, len(list), edges)
}

// wordsOf returns the keys of the lists of n labels of the paths of g.
func wordsOf(g api.Graph, n int) map[string]bool {
	words := map[string]bool{}
	var extend func(labels, ends []int)
	extend = func(labels, ends []int) {
		if len(ends) == 0 {
			return
		}
		if len(labels) == n {
			words[samples.Key(labels)] = true
			return
		}
		for label := range g.Labels {
			extend(append(slices.Clone(labels), label), samples.Step(g, ends, label))
		}
	}
	extend(nil, samples.All(g))
	return words
}

// powerOf returns the power n of g, which there is.
func powerOf(t *testing.T, g api.Graph, n int) api.Graph {
	t.Helper()
	p, e := power.Power(g, n)
	if e != api.OK {
		t.Fatalf("P16.1: Power %v, %d: %d", g, n, e)
	}
	return valid(t, p)
}

// productOf returns the product of two graphs, which there is, and its pairs.
func productOf(t *testing.T, g, h api.Graph) (api.Graph, [][]int) {
	t.Helper()
	p, pairs, e := power.Product(g, h)
	if e != api.OK {
		t.Fatalf("P16.1: Product %v, %v: %d", g, h, e)
	}
	return valid(t, p), pairs
}

// sumOf returns the sum of two graphs, which there is.
func sumOf(t *testing.T, g, h api.Graph) api.Graph {
	t.Helper()
	s, e := power.Sum(g, h)
	if e != api.OK {
		t.Fatalf("P16.1: Sum %v, %v: %d", g, h, e)
	}
	return valid(t, s)
}

// recodeOf returns the graph with other labels, which there is.
func recodeOf(t *testing.T, g api.Graph, labels int, l []int) api.Graph {
	t.Helper()
	r, e := power.Recode(g, labels, l)
	if e != api.OK {
		t.Fatalf("P16.1: Recode %v, %d, %v: %d", g, labels, l, e)
	}
	return valid(t, r)
}

// higherOf returns the higher graph n of g, which there is.
func higherOf(t *testing.T, g api.Graph, n int) api.Graph {
	t.Helper()
	h, e := power.Higher(g, n)
	if e != api.OK {
		t.Fatalf("P16.1: Higher %v, %d: %d", g, n, e)
	}
	return valid(t, h)
}

// blockOf returns the word with a number, which there is.
func blockOf(t *testing.T, q, n, label int) string {
	t.Helper()
	w, e := power.Block(q, n, label)
	if e != api.OK {
		t.Fatalf("P16.1: Block %d, %d, %d: %d", q, n, label, e)
	}
	return w
}

// labelOf returns the number of a word, for which there is no error.
func labelOf(t *testing.T, q int, w string) int {
	t.Helper()
	label, e := power.Label(q, w)
	if e != api.OK {
		t.Fatalf("P16.1: Label %d, %q: %d", q, w, e)
	}
	return label
}

// valid returns a graph that a function has returned, and checks that it is valid.
func valid(t *testing.T, g api.Graph) api.Graph {
	t.Helper()
	if e := graph.Check(g); e != api.OK {
		t.Fatalf("P16.1: the graph %v is not valid: %d", g, e)
	}
	return g
}
