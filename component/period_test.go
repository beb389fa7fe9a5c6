package component_test

import (
	"slices"
	"testing"

	"groove/api"
	"groove/samples"
)

// P10.6: periods against the definition.
func TestPeriods(t *testing.T) {
	for _, g := range irreducible(t, 31) {
		if period, _ := measureOf(t, g); period != periodOf(ofTable(g)) {
			t.Fatalf("P10.6: Period %v: %d, not %d", g, period, periodOf(ofTable(g)))
		}
	}
}

// P10.6: lengths that are great enough are those of closed paths from each state exactly if the period divides them; from the square of the number of states on they are.
func TestClosedPaths(t *testing.T) {
	for _, g := range irreducible(t, 32) {
		period, _ := measureOf(t, g)
		if period < 1 {
			t.Fatalf("P10.6: Period %v: %d", g, period)
		}
		a := ofTable(g)
		first := g.States * g.States
		lasts := a.power(first)
		for n := first; n <= first+period+1; n++ {
			for s := range g.States {
				if lasts.has(s, s) != (n%period == 0) {
					t.Fatalf("P10.6: Period %v: %d, paths of %d edges from %d", g, period, n, s)
				}
			}
			lasts = lasts.times(a)
		}
	}
}

// P10.7: each edge leads from a class to the next one, modulo the period; each class occurs, and that of the state 0 is 0.
func TestClasses(t *testing.T) {
	for _, g := range irreducible(t, 33) {
		period, classes := measureOf(t, g)
		if len(classes) != g.States || classes[0] != 0 {
			t.Fatalf("P10.7: Classes %v: %v", g, classes)
		}
		for _, edge := range g.Edges {
			if classes[edge.To] != (classes[edge.From]+1)%period {
				t.Fatalf("P10.7: Classes %v: %v, period %d, edge %v", g, classes, period, edge)
			}
		}
		distinct := slices.Clone(classes)
		slices.Sort(distinct)
		if distinct = slices.Compact(distinct); !slices.Equal(distinct, upTo(period)) {
			t.Fatalf("P10.7: Classes %v: %v, period %d", g, classes, period)
		}
	}
}

// P10.7: the class of a state is the length of each path to it from the state 0, modulo the period.
func TestLengths(t *testing.T) {
	for _, g := range irreducible(t, 34) {
		period, classes := measureOf(t, g)
		a, lasts := ofTable(g), ofNone(g.States)
		for n := range 2*g.States + 1 {
			for s, class := range classes {
				if lasts.has(0, s) && n%period != class {
					t.Fatalf("P10.7: Classes %v: %v, period %d, a path of %d edges to %d", g, classes, period, n, s)
				}
			}
			lasts = lasts.times(a)
		}
	}
}

// P10.8: the reversed graph has the same period, and its classes are those with the other sign.
func TestReversedPeriods(t *testing.T) {
	for _, g := range irreducible(t, 35) {
		period, classes := measureOf(t, g)
		other, turned := measureOf(t, reversed(t, g))
		if other != period {
			t.Fatalf("P10.8: Period %v: %d, reversed %d", g, period, other)
		}
		for s := range classes {
			if (classes[s]+turned[s])%period != 0 {
				t.Fatalf("P10.8: Classes %v: %v, reversed %v", g, classes, turned)
			}
		}
	}
}

// P10.6, P10.7: labels, and several edges between the same states, change neither the period nor the classes.
func TestLabels(t *testing.T) {
	for _, g := range irreducible(t, 36) {
		period, classes := measureOf(t, g)
		var single, double []api.Edge
		for i, edge := range g.Edges {
			single = append(single, api.Edge{From: edge.From, To: edge.To})
			if len(double)+2 <= api.MaxEdge {
				double = append(double, edge, api.Edge{From: edge.From, Label: 10 + i%200, To: edge.To})
			}
		}
		list := []api.Graph{samples.Made(1, g.States, single)}
		if len(double) == 2*len(g.Edges) {
			list = append(list, samples.Made(api.MaxLabel, g.States, double))
		}
		for _, h := range list {
			if p, c := measureOf(t, h); p != period || !slices.Equal(c, classes) {
				t.Fatalf("P10.6: Period and Classes %v: %d, %v; with other labels %d, %v", g, period, classes, p, c)
			}
		}
	}
}
