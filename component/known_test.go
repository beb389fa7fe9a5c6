package component_test

import (
	"slices"
	"testing"

	"groove/api"
	"groove/component"
	"groove/samples"
)

// answers are what all functions say of a graph, period 0 if it is not irreducible.
type answers struct {
	g                 api.Graph
	all, cyclic, ends [][]int
	period            int
	classes           []int
}

// sets returns the sets that follow each other in a list of states, between numbers -1.
func sets(states ...int) [][]int {
	list := [][]int{nil}
	for _, s := range states {
		if s < 0 {
			list = append(list, nil)
		} else {
			list[len(list)-1] = append(list[len(list)-1], s)
		}
	}
	return list
}

// singles returns the sets of each of n states alone.
func singles(n int) [][]int {
	var list [][]int
	for s := range n {
		list = append(list, []int{s})
	}
	return list
}

// upTo returns the states less than n.
func upTo(n int) []int {
	return slices.Concat(singles(n)...)
}

// known returns graphs with what the functions say of them.
func known() []answers {
	return slices.Concat(knownParts(), knownPeriods(), knownGreat())
}

// knownParts returns graphs that are not irreducible.
func knownParts() []answers {
	one, two := sets(0), singles(2)
	return []answers{
		// Without states, without edges, and with one component that is not cyclic.
		{g: of(0)}, {g: of(1), all: one, ends: one}, {g: of(2), all: two, ends: two}, {g: of(64), all: singles(64), ends: singles(64)},
		{g: samples.Made(256, 0, nil)}, {g: samples.Made(256, 1, nil), all: one, ends: one},
		// Sinks that are cyclic, and sinks that are not.
		{g: of(2, 0, 1), all: two, ends: sets(1)}, {g: of(2, 1, 0), all: two, ends: sets(0)}, {g: of(2, 0, 0), all: two, cyclic: sets(0), ends: two}, {g: of(2, 1, 1), all: two, cyclic: sets(1), ends: two},
		{g: of(2, 0, 0, 0, 1), all: two, cyclic: sets(0), ends: sets(1)}, {g: of(2, 0, 1, 1, 1), all: two, cyclic: sets(1), ends: sets(1)}, {g: of(2, 0, 0, 0, 1, 1, 1), all: two, cyclic: two, ends: sets(1)}, {g: of(2, 0, 0, 1, 1), all: two, cyclic: two, ends: two},
		{g: of(3, 0, 1, 1, 0, 1, 2), all: sets(0, 1, -1, 2), cyclic: sets(0, 1), ends: sets(2)}, {g: of(3, 0, 1, 0, 2), all: singles(3), ends: sets(1, -1, 2)}, {g: of(3, 0, 2, 1, 2, 2, 2), all: singles(3), cyclic: sets(2), ends: sets(2)},
		{g: of(5, 0, 1, 0, 2, 1, 1, 2, 3, 3, 2, 0, 4), all: sets(0, -1, 1, -1, 2, 3, -1, 4), cyclic: sets(1, -1, 2, 3), ends: sets(1, -1, 2, 3, -1, 4)},
		// Several edges between the same states.
		{g: samples.Made(3, 2, []api.Edge{{To: 1}, {Label: 1, To: 1}, {Label: 2, To: 1}}), all: two, ends: sets(1)},
		{g: samples.Made(2, 2, []api.Edge{{}, {Label: 1}, {To: 1}, {Label: 1, To: 1}}), all: two, cyclic: sets(0), ends: sets(1)},
		// Components that are first visited, from 0 on, in another order than that of their least states.
		{g: of(4, 0, 2, 2, 3, 3, 2), all: sets(0, -1, 1, -1, 2, 3), cyclic: sets(2, 3), ends: sets(1, -1, 2, 3)}, {g: of(4, 0, 3, 3, 1, 1, 2), all: singles(4), ends: sets(2)},
		{g: of(4, 0, 3, 1, 2, 2, 1, 3, 0, 3, 1), all: sets(0, 3, -1, 1, 2), cyclic: sets(0, 3, -1, 1, 2), ends: sets(1, 2)}, {g: of(4, 0, 2, 1, 3, 2, 0, 3, 3), all: sets(0, 2, -1, 1, -1, 3), cyclic: sets(0, 2, -1, 3), ends: sets(0, 2, -1, 3)},
		{g: of(6, 0, 5, 5, 3, 3, 5, 3, 1, 1, 4, 4, 1, 4, 2), all: sets(0, -1, 1, 4, -1, 2, -1, 3, 5), cyclic: sets(1, 4, -1, 3, 5), ends: sets(2)},
		{g: of(6, 5, 0, 0, 5, 4, 1, 1, 4, 3, 2, 2, 3, 2, 1, 1, 0), all: sets(0, 5, -1, 1, 4, -1, 2, 3), cyclic: sets(0, 5, -1, 1, 4, -1, 2, 3), ends: sets(0, 5)},
		{g: of(5, 4, 3, 3, 2, 2, 4, 2, 1, 1, 0, 0, 1), all: sets(0, 1, -1, 2, 3, 4), cyclic: sets(0, 1, -1, 2, 3, 4), ends: sets(0, 1)},
	}
}

// whole returns the answers for an irreducible graph.
func whole(g api.Graph, period int, classes ...int) answers {
	all := [][]int{upTo(g.States)}
	return answers{g, all, all, all, period, classes}
}

// knownPeriods returns irreducible graphs.
func knownPeriods() []answers {
	return []answers{
		// A single edge to itself, and several.
		whole(of(1, 0, 0), 1, 0), whole(samples.Made(256, 1, []api.Edge{{Label: 255}}), 1, 0), whole(samples.Made(3, 1, []api.Edge{{}, {Label: 1}, {Label: 2}}), 1, 0),
		whole(of(2, 0, 1, 1, 0), 2, 0, 1), whole(of(2, 0, 1, 1, 0, 0, 0), 1, 0, 0), whole(of(2, 0, 1, 1, 0, 1, 1), 1, 0, 0), whole(samples.Made(2, 2, []api.Edge{{To: 1}, {Label: 1, To: 1}, {From: 1, Label: 1}}), 2, 0, 1), whole(everyLabel(), 2, 0, 1),
		whole(cycle(3), 3, 0, 1, 2), whole(cycle(3, 0, 2), 1, 0, 0, 0), whole(of(3, 0, 2, 2, 1, 1, 0), 3, 0, 2, 1), whole(cycle(3, 2, 2), 1, 0, 0, 0), whole(of(3, 0, 1, 1, 0, 0, 2, 2, 0), 2, 0, 1, 1), whole(of(3, 1, 0, 0, 1, 1, 2, 2, 1), 2, 0, 1, 0),
		// Cycles of several lengths that share states.
		whole(cycle(4, 1, 0), 2, 0, 1, 0, 1), whole(cycle(4, 2, 0), 1, 0, 0, 0, 0), whole(cycle(6, 2, 0), 3, 0, 1, 2, 0, 1, 2), whole(cycle(6, 3, 0), 2, 0, 1, 0, 1, 0, 1), whole(cycle(6, 2, 0, 3, 0), 1, 0, 0, 0, 0, 0, 0), whole(cycle(6, 4, 2), 3, 0, 1, 2, 0, 1, 2), whole(cycle(6, 5, 4), 2, 0, 1, 0, 1, 0, 1),
		whole(cycle(6, 1, 5, 4, 2), 3, 0, 1, 2, 0, 1, 2), whole(cycle(6, 1, 4, 4, 2), 1, 0, 0, 0, 0, 0, 0), whole(cycle(8, 0, 5), 4, 0, 1, 2, 3, 0, 1, 2, 3), whole(cycle(9, 8, 3, 0, 4), 3, 0, 1, 2, 0, 1, 2, 0, 1, 2), whole(cycle(10, 0, 6), 5, 0, 1, 2, 3, 4, 0, 1, 2, 3, 4), whole(cycle(10, 3, 0, 9, 4), 2, 0, 1, 0, 1, 0, 1, 0, 1, 0, 1),
		// Cycles that meet in the state 0 alone.
		whole(petals(4, 6), 2, 0, 1, 0, 1, 1, 0, 1, 0, 1), whole(petals(6, 10), 2, 0, 1, 0, 1, 0, 1, 1, 0, 1, 0, 1, 0, 1, 0, 1), whole(petals(6, 9), 3, 0, 1, 2, 0, 1, 2, 1, 2, 0, 1, 2, 0, 1, 2), whole(petals(3, 5), 1, make([]int, 7)...),
		// No two of the lengths 6, 10 and 15 have the greatest common divisor 1, but all three have it.
		whole(petals(6, 10, 15), 1, make([]int, 29)...), whole(cycle(15, 5, 0, 0, 6), 1, make([]int, 15)...),
		// The state 0 is not the first one of a cycle.
		whole(of(4, 3, 1, 1, 2, 2, 0, 0, 3), 4, 0, 2, 3, 1), whole(of(5, 0, 3, 3, 1, 1, 0, 3, 4, 4, 0, 1, 2, 2, 3), 3, 0, 2, 0, 1, 2),
	}
}

// knownGreat returns graphs with 64 states, some of them with 1024 edges.
func knownGreat() []answers {
	var four, shared, twos, ones []int
	for s := range 64 {
		four, shared, twos, ones = append(four, s%4), append(shared, s%8), append(twos, s%2), append(ones, s)
	}
	last, all := sets(63), singles(64)
	quarters := [][]int{upTo(64)[:16], upTo(64)[16:32], upTo(64)[32:48], upTo(64)[48:]}
	return []answers{
		{g: chain(64), all: all, ends: last}, {g: back(64), all: all, ends: sets(0)}, {g: chain(64, 0, 0), all: all, cyclic: sets(0), ends: last}, {g: chain(64, 63, 63), all: all, cyclic: last, ends: last}, {g: back(64, 0, 0, 63, 63), all: all, cyclic: sets(0, -1, 63), ends: sets(0)},
		{g: chain(64, 32, 31), all: slices.Concat(all[:31], sets(31, 32), all[33:]), cyclic: sets(31, 32), ends: last}, {g: chain(64, 63, 1), all: [][]int{{0}, upTo(64)[1:]}, cyclic: [][]int{upTo(64)[1:]}, ends: [][]int{upTo(64)[1:]}},
		{g: chain(64, 62, 0), all: [][]int{upTo(63), {63}}, cyclic: [][]int{upTo(63)}, ends: last}, {g: apart(), all: quarters, cyclic: quarters, ends: quarters},
		whole(cycle(64), 64, ones...), whole(cycle(64, 63, 63), 1, make([]int, 64)...), whole(cycle(64, 63, 60), 4, four...), whole(cycle(64, 55, 0), 8, shared...), whole(cycle(64, 0, 2), 1, make([]int, 64)...), whole(cycle(64, 0, 3), 2, twos...),
		whole(dense(0, 1), 1, make([]int, 64)...), whole(dense(1, 4), 4, four...), whole(dense(1, 2), 2, twos...),
		{g: dense(0, 4), all: steps(4), cyclic: steps(4), ends: steps(4)}, {g: dense(0, 2), all: steps(2), cyclic: steps(2), ends: steps(2)},
	}
}

// steps returns the sets of the states less than 64 that are equal modulo n.
func steps(n int) [][]int {
	list := make([][]int, n)
	for s := range 64 {
		list[s%n] = append(list[s%n], s)
	}
	return list
}

// P10.1: what all functions say of known graphs.
func TestKnown(t *testing.T) {
	for _, k := range known() {
		if list := componentsOf(t, k.g); !isSame(list, k.all) {
			t.Errorf("P10.2: Of %v: %v, not %v", k.g, list, k.all)
		}
		if list := cyclicOf(t, k.g); !isSame(list, k.cyclic) {
			t.Errorf("P10.5: Cyclic %v: %v, not %v", k.g, list, k.cyclic)
		}
		if list := sinksOf(t, k.g); !isSame(list, k.ends) {
			t.Errorf("P10.4: Sinks %v: %v, not %v", k.g, list, k.ends)
		}
		if is := isIrreducible(t, k.g); is != (k.period > 0) {
			t.Errorf("P10.5: Irreducible %v: %v", k.g, is)
		}
		if k.period == 0 {
			checkKind(t, k.g)
			continue
		}
		if period, classes := measureOf(t, k.g); period != k.period || !slices.Equal(classes, k.classes) {
			t.Errorf("P10.6: Period and Classes %v: %d, %v, not %d, %v", k.g, period, classes, k.period, k.classes)
		}
	}
}

// P10.1: the examples of the chapter.
func TestExamples(t *testing.T) {
	g := of(3, 0, 1, 1, 0, 1, 2)
	if all := componentsOf(t, g); !isSame(all, [][]int{{0, 1}, {2}}) || !isSame(cyclicOf(t, g), all[:1]) || !isSame(sinksOf(t, g), all[1:]) {
		t.Errorf("P10.1: %v", all)
	}
	if period, _ := measureOf(t, of(3, 0, 1, 1, 2, 2, 0, 0, 2)); period != 1 {
		t.Errorf("P10.1: Period of the cycle with a further edge: %d", period)
	}
	if period, classes := measureOf(t, of(3, 0, 1, 1, 2, 2, 0)); period != 3 || !slices.Equal(classes, []int{0, 1, 2}) {
		t.Errorf("P10.1: Period and Classes of the cycle: %d, %v", period, classes)
	}
}

// P10.1: graphs that are not valid have no other result than ErrArgument, which comes before the error of a state and that of the kind.
func TestFaults(t *testing.T) {
	for _, g := range samples.Faults() {
		for _, f := range []func(g api.Graph) ([][]int, api.Errno){component.Of, component.Cyclic, component.Sinks} {
			if list, e := f(g); e != api.ErrArgument || len(list) > 0 {
				t.Errorf("P10.1: Of, Cyclic, Sinks %v: %v, %d", g, list, e)
			}
		}
		if is, e := component.Irreducible(g); e != api.ErrArgument || is {
			t.Errorf("P10.1: Irreducible %v: %v, %d", g, is, e)
		}
		for _, s := range append(noStates(g), 0, 1, 2) {
			if list, e := component.Reach(g, s); e != api.ErrArgument || len(list) > 0 {
				t.Errorf("P10.1: Reach %v, %d: %v, %d", g, s, list, e)
			}
		}
		if period, e := component.Period(g); e != api.ErrArgument || period != 0 {
			t.Errorf("P10.1: Period %v: %d, %d", g, period, e)
		}
		if classes, e := component.Classes(g); e != api.ErrArgument || len(classes) > 0 {
			t.Errorf("P10.1: Classes %v: %v, %d", g, classes, e)
		}
	}
}

// checkKind checks that a graph that is not irreducible has neither a period nor classes.
func checkKind(t *testing.T, g api.Graph) {
	t.Helper()
	if period, e := component.Period(g); e != api.ErrKind || period != 0 {
		t.Errorf("P10.1: Period %v: %d, %d", g, period, e)
	}
	if classes, e := component.Classes(g); e != api.ErrKind || len(classes) > 0 {
		t.Errorf("P10.1: Classes %v: %v, %d", g, classes, e)
	}
}

// P10.1: no function changes its argument, and what a caller does with results changes neither the argument nor other results.
func TestMemory(t *testing.T) {
	for _, k := range known() {
		kept := slices.Clone(k.g.Edges)
		for range 2 {
			results := slices.Concat(componentsOf(t, k.g), cyclicOf(t, k.g), sinksOf(t, k.g))
			if !isSame(results, slices.Concat(k.all, k.cyclic, k.ends)) {
				t.Fatalf("P10.1: results for %v have changed", k.g)
			}
			if k.g.States > 0 {
				results = append(results, reachOf(t, k.g, 0))
			}
			if k.period > 0 {
				period, classes := measureOf(t, k.g)
				if period != k.period || !slices.Equal(classes, k.classes) {
					t.Fatalf("P10.1: the period or the classes of %v have changed", k.g)
				}
				results = append(results, classes)
			}
			for i, result := range results {
				for j := range result {
					if result[j] == -9 {
						t.Fatalf("P10.1: results for %v share memory", k.g)
					}
					results[i][j] = -9
				}
				_ = append(result, -9)
			}
			if !slices.Equal(k.g.Edges, kept) {
				t.Fatalf("P10.1: %v has changed", k.g)
			}
		}
	}
}
