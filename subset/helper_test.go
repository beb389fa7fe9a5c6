package subset_test

import (
	"math/rand"
	"slices"
	"testing"

	"groove/api"
	"groove/graph"
	"groove/samples"
	"groove/subset"
)

// small returns small graphs.
func small(seed int64) []api.Graph { return samples.Small(rand.New(rand.NewSource(seed))) }

// large returns graphs with many states, labels and edges, for some of which the limits are exceeded.
func large(seed int64) []api.Graph { return samples.Large(rand.New(rand.NewSource(seed))) }

// subsets returns all sets of states of g but the empty one.
func subsets(g api.Graph) [][]int {
	var list [][]int
	for bits := 1; bits < 1<<g.States; bits++ {
		list = append(list, slices.DeleteFunc(samples.All(g), func(s int) bool { return bits>>s&1 == 0 }))
	}
	return list
}

// randomSet returns some of the states of a graph with a state, at least one.
func randomSet(r *rand.Rand, g api.Graph) []int {
	probability, one := r.Float64(), r.Intn(g.States)
	return slices.DeleteFunc(samples.All(g), func(s int) bool { return s != one && r.Float64() < probability })
}

// isZero returns whether g is the zero value.
func isZero(g api.Graph) bool { return graph.Same(g, api.Graph{}) }

// isSame returns whether two lists of lists are equal.
func isSame(a, b [][]int) bool { return slices.EqualFunc(a, b, slices.Equal) }

// buildOf returns the graph of sets, for which there is no error.
func buildOf(t *testing.T, g api.Graph) (api.Graph, [][]int) {
	t.Helper()
	h, sets, e := subset.Build(g)
	if e != api.OK {
		t.Fatalf("P12.1: Build %v: %d", g, e)
	}
	return h, sets
}

// fromOf returns the graph of sets from a set on, for which there is no error.
func fromOf(t *testing.T, g api.Graph, set []int) (api.Graph, [][]int) {
	t.Helper()
	h, sets, e := subset.From(g, set)
	if e != api.OK {
		t.Fatalf("P12.1: From %v, %v: %d", g, set, e)
	}
	return h, sets
}

// focusOf returns the first focus, its state and whether there is one; there is no error.
func focusOf(t *testing.T, g api.Graph) ([]int, int, bool) {
	t.Helper()
	focus, s, is, e := subset.Focus(g)
	if e != api.OK || !is && (len(focus) > 0 || s != 0) {
		t.Fatalf("P12.1: Focus %v: %v, %d, %t, %d", g, focus, s, is, e)
	}
	return focus, s, is
}

// countOf returns the number of words, for which there is no error.
func countOf(t *testing.T, g api.Graph, n int) api.Int {
	t.Helper()
	number, e := subset.Count(g, n)
	if e != api.OK {
		t.Fatalf("P12.1: Count %v, %d: %d", g, n, e)
	}
	return number
}

// completeOf returns the automaton and its further state, for which there is no error.
func completeOf(t *testing.T, g api.Graph) (api.Automaton, []int) {
	t.Helper()
	a, sink, e := subset.Complete(g)
	if e != api.OK {
		t.Fatalf("P12.1: Complete %v: %d", g, e)
	}
	return a, sink
}
