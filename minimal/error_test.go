package minimal_test

import (
	"reflect"
	"slices"
	"testing"

	"groove/api"
	"groove/graph"
	"groove/minimal"
	"groove/samples"
)

// checkMergeErrors checks that Partition and Merge return an error, and no other result.
func checkMergeErrors(t *testing.T, g api.Graph, want api.Errno) {
	t.Helper()
	if classes, e := minimal.Partition(g); e != want || len(classes) > 0 {
		t.Errorf("P13.1: Partition %v: %v, %d, not %d", g, classes, e, want)
	}
	if merged, classes, e := minimal.Merge(g); e != want || !isZero(merged) || len(classes) > 0 {
		t.Errorf("P13.1: Merge %v: %v, %v, %d, not %d", g, merged, classes, e, want)
	}
}

// checkSeparateError checks that Separate returns an error, and no other result.
func checkSeparateError(t *testing.T, g api.Graph, s, u int, want api.Errno) {
	t.Helper()
	if word, is, e := minimal.Separate(g, s, u); e != want || len(word) > 0 || is {
		t.Errorf("P13.1: Separate %v, %d, %d: %v, %t, %d, not %d", g, s, u, word, is, e, want)
	}
}

// checkCoverError checks that Cover returns an error, and no other result.
func checkCoverError(t *testing.T, g api.Graph, want api.Errno) {
	t.Helper()
	if cover, e := minimal.Cover(g); e != want || !isZero(cover) {
		t.Errorf("P13.1: Cover %v: %v, %d, not %d", g, cover, e, want)
	}
}

// checkCompareErrors checks that Included and Equal return an error, and no other result.
func checkCompareErrors(t *testing.T, g, h api.Graph, want api.Errno) {
	t.Helper()
	if word, is, e := minimal.Included(g, h); e != want || len(word) > 0 || is {
		t.Errorf("P13.1: Included %v, %v: %v, %t, %d, not %d", g, h, word, is, e, want)
	}
	if word, is, e := minimal.Equal(g, h); e != want || len(word) > 0 || is {
		t.Errorf("P13.1: Equal %v, %v: %v, %t, %d, not %d", g, h, word, is, e, want)
	}
}

// many returns graphs with too many sets, and with too many edges between sets.
func many() []api.Graph {
	return []api.Graph{samples.Line(2, 64, 0, 1, 62), samples.Line(2, 33, 32, 1, 0), samples.Seven(143, 1, 0), samples.Seven(253, 0, 0), turning(142, 1, 0)}
}

// P13.1: graphs that are not valid come first, whatever else is wrong, each of two of them.
func TestFaults(t *testing.T) {
	for _, g := range samples.Faults() {
		checkMergeErrors(t, g, api.ErrArgument)
		checkCoverError(t, g, api.ErrArgument)
		for _, s := range []int{0, 1, -1, 64} {
			checkSeparateError(t, g, s, 0, api.ErrArgument)
			checkSeparateError(t, g, 0, s, api.ErrArgument)
		}
		for _, h := range append(many(), samples.Golden(), samples.Of(1, 0), samples.Whole(256), g, api.Graph{}) {
			checkCompareErrors(t, g, h, api.ErrArgument)
			checkCompareErrors(t, h, g, api.ErrArgument)
		}
	}
}

// P13.1: graphs that are not deterministic, also if there is no such state.
func TestNotDeterministic(t *testing.T) {
	for _, g := range slices.Concat(small(11), large(12)) {
		if is, _ := graph.Deterministic(g); !is {
			checkMergeErrors(t, g, api.ErrKind)
			for _, s := range append(samples.NoNumbers(), 0, g.States-1, g.States) {
				checkSeparateError(t, g, s, 0, api.ErrKind)
				checkSeparateError(t, g, 0, s, api.ErrKind)
			}
		}
	}
}

// P13.1: numbers that are no states, the first or the second one.
func TestStates(t *testing.T) {
	for _, g := range []api.Graph{samples.Golden(), samples.Of(1, 0), samples.Of(256, 0), samples.Whole(256), samples.Line(1, 64)} {
		for _, s := range append(samples.NoNumbers(), g.States, g.States+1, 64, 65, 128) {
			checkSeparateError(t, g, s, 0, api.ErrState)
			checkSeparateError(t, g, 0, s, api.ErrState)
			checkSeparateError(t, g, s, s, api.ErrState)
			checkSeparateError(t, g, -1, s, api.ErrState)
		}
	}
}

// P13.1: graphs that are not irreducible have no cover, also if there are too many sets; others have none if there are too many.
func TestReducible(t *testing.T) {
	for _, g := range slices.Concat(small(13), large(14)) {
		if !isIrreducible(g) {
			checkCoverError(t, g, api.ErrKind)
		}
	}
	for _, g := range []api.Graph{samples.Line(2, 64, 0, 1, 62), samples.Seven(143, 1, 0), samples.Seven(253, 0, 0), samples.Cycles(2, 3), samples.Of(1, 0), samples.Of(1, 1)} {
		checkCoverError(t, g, api.ErrKind)
	}
	checkCoverError(t, samples.Line(2, 33, 32, 1, 0), api.ErrLimit)
	checkCoverError(t, turning(142, 1, 0), api.ErrLimit)
}

// P13.1: too many sets of either graph, whatever the other one is; as many as there may be.
func TestLimits(t *testing.T) {
	for _, g := range many() {
		for _, h := range append(many(), samples.Golden(), samples.Of(1, 0), samples.Of(256, 1), samples.Whole(256), samples.Line(1, 64)) {
			checkCompareErrors(t, g, h, api.ErrLimit)
			checkCompareErrors(t, h, g, api.ErrLimit)
		}
	}
	full := []api.Graph{samples.Line(1, 64), samples.Line(2, 23, 22, 1, 4, 4, 1, 0), samples.Grid(16, 64), samples.Seven(142, 0, 3), turning(141, 0, 3)}
	for _, g := range full {
		for _, h := range full {
			checkPair(t, g, h)
		}
	}
	// Two states that are told apart need no sets.
	if word, is := separateOf(t, samples.Line(2, 64, 0, 1, 62), 0, 1); !is || !slices.Equal(word, []int{1}) {
		t.Errorf("P13.2: Separate: %v, %t", word, is)
	}
}

// results are the lists that the functions return for a graph.
type results struct {
	edges [][]api.Edge
	lists [][]int
}

// resultsOf returns the results for an irreducible deterministic graph with two labels and some states.
func resultsOf(t *testing.T, g api.Graph) results {
	t.Helper()
	merged, classes := mergeOf(t, g)
	separated, _ := separateOf(t, g, 0, 1)
	missing, _ := includedOf(t, samples.Whole(2), g)
	different, _ := equalOf(t, g, samples.Whole(2))
	return results{[][]api.Edge{merged.Edges, coverOf(t, g).Edges}, [][]int{partitionOf(t, g), classes, separated, missing, different}}
}

// overwrite writes a value to each place of some lists, and returns whether no list has it before its turn.
func overwrite[T comparable](lists [][]T, value T) bool {
	for _, list := range lists {
		if slices.Contains(list, value) {
			return false
		}
		for i := range list[:cap(list)] {
			list[:cap(list)][i] = value
		}
	}
	return true
}

// P13.1: no function changes its arguments, and what a caller does with results changes neither the arguments nor other results.
func TestMemory(t *testing.T) {
	for _, g := range []api.Graph{samples.Golden(), samples.Even(), samples.Line(2, 4, 3, 1, 0), samples.Of(2, 3, 0, 0, 0, 0, 1, 1, 1, 0, 2, 2, 0, 0, 2, 1, 1)} {
		edges := slices.Clone(g.Edges)
		given, before := resultsOf(t, g), resultsOf(t, g)
		if !overwrite(given.edges, api.Edge{From: -9}) || !overwrite(given.lists, -9) {
			t.Errorf("P13.1: two lists of the results for %v share memory", g)
		}
		if after := resultsOf(t, g); !slices.Equal(g.Edges, edges) || !reflect.DeepEqual(before, after) {
			t.Errorf("P13.1: %v, or its results, have changed: %v, not %v", g, after, before)
		}
	}
}
