package power_test

import (
	"math"
	"slices"
	"testing"

	"groove/api"
	"groove/graph"
	"groove/power"
	"groove/samples"
)

// checkPowerError checks that Power returns an error, and no graph.
func checkPowerError(t *testing.T, g api.Graph, n int, want api.Errno) {
	t.Helper()
	if p, e := power.Power(g, n); e != want || !graph.Same(p, api.Graph{}) {
		t.Errorf("P16.1: Power %v, %d: %v, %d, not %d", g, n, p, e, want)
	}
}

// checkHigherError checks that Higher returns an error, and no graph.
func checkHigherError(t *testing.T, g api.Graph, n int, want api.Errno) {
	t.Helper()
	if h, e := power.Higher(g, n); e != want || !graph.Same(h, api.Graph{}) {
		t.Errorf("P16.1: Higher %v, %d: %v, %d, not %d", g, n, h, e, want)
	}
}

// checkRecodeError checks that Recode returns an error, and no graph.
func checkRecodeError(t *testing.T, g api.Graph, labels int, l []int, want api.Errno) {
	t.Helper()
	if h, e := power.Recode(g, labels, l); e != want || !graph.Same(h, api.Graph{}) {
		t.Errorf("P16.1: Recode %v, %d, %v: %v, %d, not %d", g, labels, l, h, e, want)
	}
}

// checkPairErrors checks that Product and Sum return an error, and no other result.
func checkPairErrors(t *testing.T, g, h api.Graph, want api.Errno) {
	t.Helper()
	if p, pairs, e := power.Product(g, h); e != want || !graph.Same(p, api.Graph{}) || len(pairs) > 0 {
		t.Errorf("P16.1: Product %v, %v: %v, %v, %d, not %d", g, h, p, pairs, e, want)
	}
	if s, e := power.Sum(g, h); e != want || !graph.Same(s, api.Graph{}) {
		t.Errorf("P16.1: Sum %v, %v: %v, %d, not %d", g, h, s, e, want)
	}
}

// P16.1: graphs that are not valid come first, whatever else is wrong, in either place.
func TestFaults(t *testing.T) {
	faults := samples.Faults()
	for _, g := range faults {
		for _, n := range append(samples.NoNumbers(), 0, 1, 2, 16, 17) {
			checkPowerError(t, g, n, api.ErrArgument)
			checkHigherError(t, g, n, api.ErrArgument)
			checkRecodeError(t, g, n, nil, api.ErrArgument)
			checkRecodeError(t, g, 1, []int{n}, api.ErrArgument)
			checkRecodeError(t, g, 2, []int{1, n}, api.ErrArgument)
		}
		for _, h := range []api.Graph{samples.Golden(), samples.Of(1, 0), samples.Of(1, 1), samples.Of(256, 64), samples.Grid(16, 64), {}, faults[1]} {
			checkPairErrors(t, g, h, api.ErrArgument)
			checkPairErrors(t, h, g, api.ErrArgument)
		}
	}
}

// P16.1: exponents and numbers of edges that are too small or too great come before the limit.
func TestNumbers(t *testing.T) {
	for _, g := range []api.Graph{samples.Golden(), samples.Of(1, 0), samples.Whole(1), samples.Whole(256), samples.Grid(16, 64), samples.Cycles(64), samples.Of(256, 64)} {
		for _, n := range append(samples.NoNumbers(), 17, 18, 64, 256, 4096) {
			checkPowerError(t, g, n, api.ErrRange)
			checkHigherError(t, g, n, api.ErrRange)
		}
		checkPowerError(t, g, 0, api.ErrRange)
		higherOf(t, g, 0)
	}
	for _, g := range []api.Graph{samples.Of(1, 0), samples.Whole(1), samples.Cycles(64), samples.Of(1, 64)} {
		powerOf(t, g, 1)
		powerOf(t, g, 16)
		higherOf(t, g, 16)
	}
	for _, g := range []api.Graph{samples.Of(2, 0), samples.Whole(2), samples.Of(256, 64)} {
		checkPowerError(t, g, 16, api.ErrLimit)
	}
}

// P16.1: different numbers of labels come before the limit.
func TestMismatches(t *testing.T) {
	for labels := 1; labels <= 256; labels += 5 {
		for other := 1; other <= 256; other += 5 {
			if labels != other {
				checkPairErrors(t, samples.Of(labels, 1), samples.Of(other, 1), api.ErrMismatch)
				checkPairErrors(t, samples.Of(labels, 64), samples.Of(other, 64), api.ErrMismatch)
			}
		}
	}
	checkPairErrors(t, samples.Grid(16, 64), samples.Grid(15, 64), api.ErrMismatch)
	checkPairErrors(t, samples.Of(1, 0), samples.Of(2, 0), api.ErrMismatch)
	checkPairErrors(t, samples.Grid(16, 64), samples.Grid(16, 64), api.ErrLimit)
}

// P16.1: wrong numbers of labels come first, then lists that do not fit, and then numbers in them that are no labels, wherever they stand, also for labels without edges.
func TestRecodeErrors(t *testing.T) {
	for _, g := range []api.Graph{samples.Golden(), samples.Of(1, 0), samples.Whole(256), samples.Of(16, 64), samples.With(samples.Of(3, 2), 0, 1, 0, 1)} {
		fits := make([]int, g.Labels)
		for _, labels := range append(samples.NoNumbers(), 0, 257, 258, 4096) {
			for _, l := range [][]int{fits, nil, {-1}, {math.MaxInt, 0}, {0, 0, 0, 0, 0}, make([]int, 257)} {
				checkRecodeError(t, g, labels, l, api.ErrRange)
			}
		}
		for _, labels := range []int{1, 2, 255, 256} {
			for _, l := range [][]int{nil, fits[1:], append(slices.Clone(fits), 0), append(slices.Clone(fits[1:]), -1, -1), slices.Repeat([]int{-1}, g.Labels+1), slices.Repeat([]int{labels}, g.Labels-1), make([]int, 1000)} {
				checkRecodeError(t, g, labels, l, api.ErrMismatch)
			}
			for _, n := range append(samples.NoNumbers(), labels, labels+1, 256) {
				for i := range fits {
					l := slices.Clone(fits)
					l[i] = n
					checkRecodeError(t, g, labels, l, api.ErrRange)
				}
				checkRecodeError(t, g, labels, slices.Repeat([]int{n}, g.Labels), api.ErrRange)
			}
			recodeOf(t, g, labels, fits)
			recodeOf(t, g, labels, slices.Repeat([]int{labels - 1}, g.Labels))
		}
	}
}

// P16.1: no function changes its arguments, and what a caller does with results changes neither the arguments nor other results.
func TestMemoryOfResults(t *testing.T) {
	for _, g := range []api.Graph{samples.Golden(), samples.Even(), samples.Cycles(3), samples.Whole(2), samples.Of(2, 3, 0, 0, 1, 0, 1, 1, 1, 0, 2)} {
		edges, l := slices.Clone(g.Edges), make([]int, g.Labels)
		results := func() ([]api.Graph, [][]int) {
			p, pairs := productOf(t, g, g)
			return []api.Graph{powerOf(t, g, 1), powerOf(t, g, 2), p, sumOf(t, g, samples.Of(g.Labels, 0)), sumOf(t, samples.Of(g.Labels, 0), g), sumOf(t, g, g), recodeOf(t, g, g.Labels, l), higherOf(t, g, 0), higherOf(t, g, 1)}, pairs
		}
		list, pairs := results()
		var before []api.Graph
		for _, h := range list {
			before = append(before, samples.Made(h.Labels, h.States, h.Edges))
		}
		numbers := slices.Concat(pairs...)
		for i, h := range list {
			if !graph.Same(h, before[i]) {
				t.Errorf("P16.1: results for %v share memory", g)
			}
			all := h.Edges[:cap(h.Edges)]
			for j := range all {
				all[j] = api.Edge{From: -9}
			}
		}
		for i, p := range pairs {
			if !slices.Equal(p, numbers[2*i:2*i+2]) {
				t.Errorf("P16.1: pairs of %v share memory", g)
			}
			p = p[:cap(p)]
			for j := range p {
				p[j] = -9
			}
		}
		again, other := results()
		if !slices.EqualFunc(again, before, graph.Same) || !slices.Equal(slices.Concat(other...), numbers) {
			t.Errorf("P16.1: the results for %v have changed", g)
		}
		if !slices.Equal(g.Edges, edges) || !slices.Equal(l, make([]int, g.Labels)) {
			t.Errorf("P16.1: %v or the list have changed", g)
		}
	}
}
