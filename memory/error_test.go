package memory_test

import (
	"math"
	"slices"
	"testing"

	"groove/api"
	"groove/component"
	"groove/graph"
	"groove/memory"
	"groove/samples"
)

// checkLocalError checks that Local returns an error, and false.
func checkLocalError(t *testing.T, g api.Graph, m, a int, want api.Errno) {
	t.Helper()
	if is, e := memory.Local(g, m, a); is || e != want {
		t.Errorf("P15.1: Local %v, %d, %d: %t, %d, not %d", g, m, a, is, e, want)
	}
}

// checkTypeError checks that Type returns an error, and no other result.
func checkTypeError(t *testing.T, g api.Graph, want api.Errno) {
	t.Helper()
	if k, is, e := memory.Type(g); k != 0 || is || e != want {
		t.Errorf("P15.1: Type %v: %d, %t, %d, not %d", g, k, is, e, want)
	}
}

// checkWitnessError checks that Witness returns an error, and no other result.
func checkWitnessError(t *testing.T, g api.Graph, want api.Errno) {
	t.Helper()
	if first, second, is, e := memory.Witness(g); len(first) > 0 || len(second) > 0 || is || e != want {
		t.Errorf("P15.1: Witness %v: %v, %v, %t, %d, not %d", g, first, second, is, e, want)
	}
}

// checkFollowError checks that Follow returns an error, and no states.
func checkFollowError(t *testing.T, g api.Graph, labels []int, want api.Errno) {
	t.Helper()
	if set, e := memory.Follow(g, labels); len(set) > 0 || e != want {
		t.Errorf("P15.1: Follow %v, %d labels: %v, %d, not %d", g, len(labels), set, e, want)
	}
}

// P15.1: graphs that are not valid come first, whatever else is wrong.
func TestFaults(t *testing.T) {
	for _, g := range samples.Faults() {
		if m, is, e := memory.Memory(g); m != 0 || is || e != api.ErrArgument {
			t.Errorf("P15.1: Memory %v: %d, %t, %d", g, m, is, e)
		}
		if a, is, e := memory.Anticipation(g); a != 0 || is || e != api.ErrArgument {
			t.Errorf("P15.1: Anticipation %v: %d, %t, %d", g, a, is, e)
		}
		checkWitnessError(t, g, api.ErrArgument)
		checkTypeError(t, g, api.ErrArgument)
		for _, n := range append(samples.NoNumbers(), 0, 1, api.MaxPower+1) {
			checkLocalError(t, g, n, 0, api.ErrArgument)
			checkLocalError(t, g, 0, n, api.ErrArgument)
			checkFollowError(t, g, []int{n}, api.ErrArgument)
		}
		checkFollowError(t, g, nil, api.ErrArgument)
		checkFollowError(t, g, make([]int, api.MaxWord+1), api.ErrArgument)
	}
}

// P15.1: numbers of labels that are too small or too great, each of the two, also for graphs that are local anyway.
func TestNumbers(t *testing.T) {
	for _, g := range []api.Graph{samples.Golden(), samples.Even(), samples.Of(1, 0), samples.Whole(256), samples.Line(1, 64), samples.Of(1, 2, 0, 0, 0, 0, 0, 1, 1, 0, 0)} {
		for _, n := range append(samples.NoNumbers(), api.MaxPower+1, api.MaxPower+2) {
			for _, other := range []int{0, 1, api.MaxPower, n, -1, math.MaxInt} {
				checkLocalError(t, g, n, other, api.ErrRange)
				checkLocalError(t, g, other, n, api.ErrRange)
			}
		}
		for _, n := range []int{0, 1, api.MaxPower} {
			localOf(t, g, n, api.MaxPower)
			localOf(t, g, api.MaxPower, n)
		}
	}
}

// P15.4: only deterministic graphs have witnesses, whether they have a memory or not; the others have numbers.
func TestNotDeterministic(t *testing.T) {
	for _, g := range slices.Concat(tiny(), small(1), large(2)) {
		if is, _ := graph.Deterministic(g); !is {
			checkWitnessError(t, g, api.ErrKind)
			memoryOf(t, g)
			anticipationOf(t, g)
		}
	}
	checkWitnessError(t, samples.Of(1, 3, 0, 0, 1, 0, 0, 2), api.ErrKind)
	checkWitnessError(t, samples.Of(256, 64, 63, 255, 0, 63, 255, 63), api.ErrKind)
}

// P15.5: graphs that are not irreducible have no type, also if there are too many sets of states; others have none if there are too many.
func TestTypeErrors(t *testing.T) {
	for _, g := range slices.Concat(tiny(), small(3), large(4)) {
		if is, _ := component.Irreducible(g); !is {
			checkTypeError(t, g, api.ErrKind)
		}
	}
	for _, g := range []api.Graph{samples.Of(1, 0), samples.Of(1, 1), samples.Stairs(), samples.Cycles(2, 3), samples.Line(1, 64), samples.Line(2, 64, 0, 1, 62), samples.Seven(253, 0, 0), samples.Of(256, 64)} {
		checkTypeError(t, g, api.ErrKind)
	}
	for _, g := range []api.Graph{long(33), long(64), samples.Line(2, 33, 32, 1, 0)} {
		checkTypeError(t, g, api.ErrLimit)
		memoryOf(t, g)
		witnessOf(t, g)
	}
}

// P15.6: too many labels come before what is wrong with any of them; numbers that are no labels, wherever they stand, also behind labels that lead nowhere.
func TestFollowErrors(t *testing.T) {
	many := make([]int, api.MaxWord)
	for _, g := range []api.Graph{samples.Golden(), samples.Of(1, 0), samples.Whole(256), samples.Cycles(64)} {
		checkFollowError(t, g, append(slices.Clone(many), 0), api.ErrLimit)
		checkFollowError(t, g, append(slices.Clone(many), -1), api.ErrLimit)
		checkFollowError(t, g, append([]int{256}, many...), api.ErrLimit)
		checkFollowError(t, g, append([]int{256}, many[1:]...), api.ErrRange)
		followOf(t, g, many)
		for _, n := range append(samples.NoNumbers(), g.Labels, g.Labels+1, 256) {
			for _, labels := range [][]int{{n}, {0, n}, {n, 0}, {0, g.Labels - 1, 0, n}, append(slices.Clone(many[1:]), n)} {
				checkFollowError(t, g, labels, api.ErrRange)
			}
		}
	}
	checkFollowError(t, samples.Golden(), []int{1, 1, 2}, api.ErrRange)
	checkFollowError(t, samples.Line(1, 2), []int{0, 0, 0, 1}, api.ErrRange)
}

// P15.1: no function changes its arguments, and what a caller does with results changes neither the arguments nor other results.
func TestMemoryOfResults(t *testing.T) {
	for _, g := range []api.Graph{samples.Even(), samples.Cycles(3), samples.Of(1, 2, 0, 0, 0, 1, 0, 1), samples.Golden()} {
		edges, labels := slices.Clone(g.Edges), []int{0, 0, 0}
		m, is := memoryOf(t, g)
		a, ahead := anticipationOf(t, g)
		local := localOf(t, g, 1, 1)
		first, second, _ := witnessOf(t, g)
		set := followOf(t, g, labels)
		before := [][]int{slices.Clone(first), slices.Clone(second), slices.Clone(set)}
		for i, list := range [][]int{first, second, set} {
			if !slices.Equal(list, before[i]) {
				t.Errorf("P15.1: two lists of the results for %v share memory", g)
			}
			list = list[:cap(list)]
			for j := range list {
				list[j] = -9
			}
		}
		again, other, _ := witnessOf(t, g)
		m2, is2 := memoryOf(t, g)
		a2, ahead2 := anticipationOf(t, g)
		if !slices.Equal(again, before[0]) || !slices.Equal(other, before[1]) || !slices.Equal(followOf(t, g, labels), before[2]) || m != m2 || is != is2 || a != a2 || ahead != ahead2 || localOf(t, g, 1, 1) != local {
			t.Errorf("P15.1: the results for %v have changed", g)
		}
		if !slices.Equal(g.Edges, edges) || !slices.Equal(labels, []int{0, 0, 0}) {
			t.Errorf("P15.1: %v or the labels have changed", g)
		}
	}
}
