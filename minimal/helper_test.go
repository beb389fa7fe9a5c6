package minimal_test

import (
	"math/rand"
	"slices"
	"testing"

	"groove/api"
	"groove/graph"
	"groove/minimal"
	"groove/samples"
)

// small returns small graphs.
func small(seed int64) []api.Graph { return samples.Small(rand.New(rand.NewSource(seed))) }

// large returns graphs with many states, labels and edges.
func large(seed int64) []api.Graph { return samples.Large(rand.New(rand.NewSource(seed))) }

// everyMachine returns all deterministic graphs with some labels and states.
func everyMachine(labels, states int) []api.Graph {
	list := []api.Graph{samples.Of(labels, states)}
	for s := range states {
		for label := range labels {
			for _, g := range list {
				for to := range states {
					more := g
					more.Edges = append(slices.Clone(g.Edges), api.Edge{From: s, Label: label, To: to})
					list = append(list, more)
				}
			}
		}
	}
	return list
}

// blown returns a deterministic graph with some states, among which each state of a lesser one has copies, at least one, in any order; the edges of a copy lead to any copies.
func blown(r *rand.Rand, g api.Graph, states int) api.Graph {
	var copied []int
	copies := make([][]int, g.States)
	for i, place := range r.Perm(states) {
		s := i % g.States
		if i >= g.States {
			s = r.Intn(g.States)
		}
		copied = append(copied, s)
		copies[s] = append(copies[s], place)
	}
	var edges []api.Edge
	for _, edge := range g.Edges {
		for _, from := range copies[edge.From] {
			edges = append(edges, api.Edge{From: from, Label: edge.Label, To: copies[edge.To][r.Intn(len(copies[edge.To]))]})
		}
	}
	return samples.Made(g.Labels, len(copied), edges)
}

// machines returns deterministic graphs of all kinds: all small ones, random ones, and some with many equivalent states.
func machines(seed int64) []api.Graph {
	r := rand.New(rand.NewSource(seed))
	list := slices.Concat(everyMachine(1, 0), everyMachine(256, 0), everyMachine(1, 1), everyMachine(3, 1), everyMachine(1, 2), everyMachine(2, 2), everyMachine(1, 4), everyMachine(3, 2))
	for range 200 {
		states := 1 + r.Intn(7)
		g := samples.Deterministic(r, 1+r.Intn(3), states, 0.6*r.Float64())
		list = append(list, g, blown(r, g, states+r.Intn(9)), samples.Deterministic(r, 2, 10, 0.2*r.Float64()))
	}
	for _, g := range slices.Concat(samples.Small(r), samples.Large(r)) {
		if is, _ := graph.Deterministic(g); is {
			list = append(list, g)
			if g.States > 0 && g.States <= 32 && len(g.Edges) <= 64 {
				list = append(list, blown(r, g, 64))
			}
		}
	}
	return list
}

// arrows returns, for each state and each label of a deterministic graph, the state to which it leads, or -1.
func arrows(g api.Graph) [][]int {
	next := make([][]int, g.States)
	for s := range next {
		next[s] = slices.Repeat([]int{-1}, g.Labels)
	}
	for _, edge := range g.Edges {
		next[edge.From][edge.Label] = edge.To
	}
	return next
}

// apart returns, for all pairs of states of a deterministic graph, the number of labels of the first word that exactly one of them has, or 0 if there is none: first those that a single label tells apart, and then those that a label leads to such pairs.
func apart(g api.Graph) [][]int {
	next := arrows(g)
	lengths := make([][]int, g.States)
	for s := range lengths {
		lengths[s] = make([]int, g.States)
	}
	for n, found := 1, true; found; n++ {
		found = false
		for s := range lengths {
			for t := range s {
				if lengths[s][t] == 0 && firstLabel(next, lengths, s, t, n) >= 0 {
					lengths[s][t], lengths[t][s], found = n, n, true
				}
			}
		}
	}
	return lengths
}

// firstLabel returns the least label with which a word of n labels can begin that exactly one of two states has, or -1 if none of n labels is known.
func firstLabel(next, lengths [][]int, s, t, n int) int {
	for label, to := range next[s] {
		other := next[t][label]
		if n == 1 && (to < 0) != (other < 0) || n > 1 && to >= 0 && other >= 0 && lengths[to][other] == n-1 {
			return label
		}
	}
	return -1
}

// separating returns the first word that exactly one of two states has, and whether there is one.
func separating(next, lengths [][]int, s, t int) ([]int, bool) {
	var word []int
	for n := lengths[s][t]; n > 0; n-- {
		label := firstLabel(next, lengths, s, t, n)
		word = append(word, label)
		s, t = next[s][label], next[t][label]
	}
	return word, len(word) > 0
}

// classesOf returns the class of each state, by the definition: those of the least states come first.
func classesOf(lengths [][]int) []int {
	var classes []int
	number := 0
	for s := range lengths {
		least := slices.Index(lengths[s], 0)
		if least == s {
			classes = append(classes, number)
			number++
		} else {
			classes = append(classes, classes[least])
		}
	}
	return classes
}

// mergedBy returns the merged graph of a graph whose states have some classes.
func mergedBy(g api.Graph, classes []int) api.Graph {
	number := 0
	var edges []api.Edge
	for _, class := range classes {
		number = max(number, class+1)
	}
	for _, edge := range g.Edges {
		edges = append(edges, api.Edge{From: classes[edge.From], Label: edge.Label, To: classes[edge.To]})
	}
	return samples.Made(g.Labels, number, edges)
}

// setsOf returns the graph of sets of g from all states on, and whether it is within the limits.
func setsOf(g api.Graph) (api.Graph, bool) {
	sets := [][]int{samples.All(g)}
	numbers := map[string]int{samples.Key(sets[0]): 0}
	var edges []api.Edge
	if g.States == 0 {
		return samples.Of(g.Labels, 0), true
	}
	for i := 0; i < len(sets) && len(sets) <= api.MaxState && len(edges) <= api.MaxEdge; i++ {
		for label := range g.Labels {
			to := samples.Step(g, sets[i], label)
			if len(to) == 0 {
				continue
			}
			if _, is := numbers[samples.Key(to)]; !is {
				numbers[samples.Key(to)] = len(sets)
				sets = append(sets, to)
			}
			edges = append(edges, api.Edge{From: i, Label: label, To: numbers[samples.Key(to)]})
		}
	}
	if len(sets) > api.MaxState || len(edges) > api.MaxEdge {
		return api.Graph{}, false
	}
	return samples.Made(g.Labels, len(sets), edges), true
}

// partitionOf returns the classes of a deterministic graph, for which there is no error.
func partitionOf(t *testing.T, g api.Graph) []int {
	t.Helper()
	classes, e := minimal.Partition(g)
	if e != api.OK {
		t.Fatalf("P13.1: Partition %v: %d", g, e)
	}
	return classes
}

// mergeOf returns the merged graph and the classes of a deterministic graph, for which there is no error.
func mergeOf(t *testing.T, g api.Graph) (api.Graph, []int) {
	t.Helper()
	merged, classes, e := minimal.Merge(g)
	if e != api.OK {
		t.Fatalf("P13.1: Merge %v: %d", g, e)
	}
	return merged, classes
}

// separateOf returns what separates two states, for which there is no error, and no word if nothing does.
func separateOf(t *testing.T, g api.Graph, s, u int) ([]int, bool) {
	t.Helper()
	word, is, e := minimal.Separate(g, s, u)
	if e != api.OK || !is && len(word) > 0 {
		t.Fatalf("P13.1: Separate %v, %d, %d: %v, %t, %d", g, s, u, word, is, e)
	}
	return word, is
}

// coverOf returns the cover of an irreducible graph, for which there is no error.
func coverOf(t *testing.T, g api.Graph) api.Graph {
	t.Helper()
	cover, e := minimal.Cover(g)
	if e != api.OK {
		t.Fatalf("P13.1: Cover %v: %d", g, e)
	}
	return cover
}

// includedOf returns whether the words of g are words of h, for which there is no error, and no word if they are.
func includedOf(t *testing.T, g, h api.Graph) ([]int, bool) {
	t.Helper()
	word, is, e := minimal.Included(g, h)
	if e != api.OK || is && len(word) > 0 {
		t.Fatalf("P13.1: Included %v, %v: %v, %t, %d", g, h, word, is, e)
	}
	return word, is
}

// equalOf returns whether g and h have the same words, for which there is no error, and no word if they have.
func equalOf(t *testing.T, g, h api.Graph) ([]int, bool) {
	t.Helper()
	word, is, e := minimal.Equal(g, h)
	if e != api.OK || is && len(word) > 0 {
		t.Fatalf("P13.1: Equal %v, %v: %v, %t, %d", g, h, word, is, e)
	}
	return word, is
}

// isZero returns whether g is the zero value.
func isZero(g api.Graph) bool { return graph.Same(g, api.Graph{}) }
