package forbidden_test

import (
	"math"
	"slices"
	"strings"
	"testing"

	"groove/api"
	"groove/forbidden"
	"groove/graph"
	"groove/samples"
)

// checkReduceError checks that Reduce returns an error, and no other result.
func checkReduceError(t *testing.T, q int, l []string, want api.Errno) {
	t.Helper()
	if list, e := forbidden.Reduce(q, l); e != want || len(list) > 0 {
		t.Errorf("P14.1: Reduce %d, %q: %q, %d, not %d", q, l[:min(len(l), 9)], list, e, want)
	}
}

// checkGraphError checks that Graph returns an error, and no other result.
func checkGraphError(t *testing.T, q int, l []string, want api.Errno) {
	t.Helper()
	if g, e := forbidden.Graph(q, l); e != want || !graph.Same(g, api.Graph{}) {
		t.Errorf("P14.1: Graph %d, %q: %v, %d, not %d", q, l[:min(len(l), 9)], g, e, want)
	}
}

// checkAllowedError checks that Allowed returns an error, and no other result.
func checkAllowedError(t *testing.T, q int, l []string, w string, want api.Errno) {
	t.Helper()
	if is, e := forbidden.Allowed(q, l, w); e != want || is {
		t.Errorf("P14.1: Allowed %d, %q, %q: %t, %d, not %d", q, l[:min(len(l), 9)], short(w), is, e, want)
	}
}

// checkFindError checks that Find returns an error, and no other result.
func checkFindError(t *testing.T, g api.Graph, n int, want api.Errno) {
	t.Helper()
	if l, e := forbidden.Find(g, n); e != want || len(l) > 0 {
		t.Errorf("P14.1: Find %v, %d: %q, %d, not %d", g, n, l, e, want)
	}
}

// noAlphabets are numbers of letters that no alphabet has.
func noAlphabets() []int { return append(samples.NoNumbers(), 0, 17, 18, 256) }

// badWords are words that have letters that no alphabet has.
func badWords() []string {
	return []string{"g", "0g", "g0", "F", " ", "0 1", "01\n", "\x00", "\xff", "é", "-1", strings.Repeat("0", api.MaxLength-1) + "x", "x" + strings.Repeat("0", api.MaxLength-1)}
}

// P14.1: no alphabet comes first, whatever else is wrong.
func TestNoAlphabets(t *testing.T) {
	for _, q := range noAlphabets() {
		for _, l := range [][]string{nil, {"0"}, {""}, {"1", "0"}, badWords(), make([]string, 65), {strings.Repeat("0", 33)}} {
			if e := forbidden.Check(q, l); e != api.ErrAlphabet {
				t.Errorf("P14.1: Check %d, %q: %d", q, l, e)
			}
			checkReduceError(t, q, l, api.ErrAlphabet)
			checkGraphError(t, q, l, api.ErrArgument)
			checkAllowedError(t, q, l, "0", api.ErrArgument)
		}
	}
}

// P14.1: too many words come before what is wrong with any of them.
func TestTooManyWords(t *testing.T) {
	words := samples.StringsUpTo("01", 6)[1:]
	for _, l := range [][]string{words[:65], slices.Repeat([]string{"0"}, 65), make([]string, 65), append([]string{"x"}, words[:64]...), words, append(words[:64:64], "")} {
		if e := forbidden.Check(2, l); e != api.ErrLimit {
			t.Errorf("P14.1: Check %d words: %d", len(l), e)
		}
		checkReduceError(t, 2, l, api.ErrLimit)
		checkGraphError(t, 2, l, api.ErrArgument)
		checkAllowedError(t, 2, l, "0", api.ErrArgument)
	}
	if e := forbidden.Check(2, words[:64]); e != api.OK {
		t.Errorf("P14.1: Check 64 words: %d", e)
	}
}

// P14.1: the first error of the first word that has one; for Reduce, the order is none.
func TestWrongWords(t *testing.T) {
	long, longest := strings.Repeat("0", 33), strings.Repeat("1", 32)
	for _, c := range []struct {
		q            int
		l            []string
		check, other api.Errno
	}{
		{2, []string{""}, api.ErrEmpty, api.ErrEmpty}, {2, []string{"0", ""}, api.ErrEmpty, api.ErrEmpty}, {2, []string{"", "0"}, api.ErrEmpty, api.ErrEmpty}, {2, []string{"1", "0", ""}, api.ErrOrder, api.ErrEmpty}, {2, []string{"", "2"}, api.ErrEmpty, api.ErrEmpty}, {2, []string{"2", ""}, api.ErrWord, api.ErrWord}, {2, []string{"", long}, api.ErrEmpty, api.ErrEmpty},
		{2, []string{long}, api.ErrLimit, api.ErrLimit}, {2, []string{longest, long}, api.ErrLimit, api.ErrLimit}, {2, []string{long + "x"}, api.ErrLimit, api.ErrLimit}, {2, []string{strings.Repeat("x", 33)}, api.ErrLimit, api.ErrLimit}, {2, []string{strings.Repeat("x", 32)}, api.ErrWord, api.ErrWord}, {2, []string{long, ""}, api.ErrLimit, api.ErrLimit}, {2, []string{"x", long}, api.ErrWord, api.ErrWord}, {2, []string{strings.Repeat("0", api.MaxWord+1)}, api.ErrLimit, api.ErrLimit}, {2, []string{"1", "0", long}, api.ErrOrder, api.ErrLimit},
		{2, []string{"2"}, api.ErrWord, api.ErrWord}, {2, []string{"0", "1", "02"}, api.ErrWord, api.ErrWord}, {2, []string{"10", "2"}, api.ErrWord, api.ErrWord}, {2, []string{"10", "00", "2"}, api.ErrOrder, api.ErrWord}, {1, []string{"0", "1"}, api.ErrWord, api.ErrWord}, {15, []string{"e", "f"}, api.ErrWord, api.ErrWord},
		{2, []string{"1", "0"}, api.ErrOrder, api.OK}, {2, []string{"0", "0"}, api.ErrOrder, api.OK}, {2, []string{"00", "1"}, api.ErrOrder, api.OK}, {2, []string{"0", "01", "00"}, api.ErrOrder, api.OK}, {2, []string{"0", "1", "11", "11"}, api.ErrOrder, api.OK}, {2, []string{longest, "0"}, api.ErrOrder, api.OK}, {2, []string{"10", "1"}, api.ErrOrder, api.OK},
		{2, nil, api.OK, api.OK}, {2, []string{"0", "1", "00", "01", "10", "11"}, api.OK, api.OK}, {2, []string{"1", "00"}, api.OK, api.OK}, {16, []string{"0", "f", "0f", "f0"}, api.OK, api.OK}, {2, []string{longest}, api.OK, api.OK}, {1, []string{"0", "00", "000"}, api.OK, api.OK},
	} {
		if e := forbidden.Check(c.q, c.l); e != c.check {
			t.Errorf("P14.1: Check %d, %q: %d, not %d", c.q, c.l, e, c.check)
		}
		if c.other != api.OK {
			checkReduceError(t, c.q, c.l, c.other)
		} else if _, e := forbidden.Reduce(c.q, c.l); e != api.OK {
			t.Errorf("P14.1: Reduce %d, %q: %d", c.q, c.l, e)
		}
		if c.check != api.OK {
			checkGraphError(t, c.q, c.l, api.ErrArgument)
			checkAllowedError(t, c.q, c.l, "0", api.ErrArgument)
			checkAllowedError(t, c.q, c.l, "x", api.ErrArgument)
			checkAllowedError(t, c.q, c.l, strings.Repeat("0", api.MaxWord+1), api.ErrArgument)
		}
	}
	for _, w := range badWords() {
		for _, l := range [][]string{{w}, {"0", w}, {w, "0"}} {
			if e := forbidden.Check(16, l); e != api.ErrWord {
				t.Errorf("P14.1: Check 16, %q: %d", l, e)
			}
			checkReduceError(t, 16, l, api.ErrWord)
		}
	}
}

// P14.1: words that are none, for Allowed.
func TestNoWords(t *testing.T) {
	for _, l := range [][]string{nil, {"0"}, {"11", "000"}} {
		for _, w := range append(badWords(), "2", "02", "0112") {
			checkAllowedError(t, 2, l, w, api.ErrWord)
		}
		for _, w := range []string{strings.Repeat("0", api.MaxWord+1), strings.Repeat("x", api.MaxWord+1)} {
			checkAllowedError(t, 2, l, w, api.ErrLimit)
		}
	}
}

// P14.1: the errors of Find, one after the other.
func TestFindErrors(t *testing.T) {
	noLengths := append(samples.NoNumbers(), api.MaxLength+1, api.MaxLength+2, 64)
	for _, g := range samples.Faults() {
		for _, n := range append(noLengths, 0, 1, api.MaxLength) {
			checkFindError(t, g, n, api.ErrArgument)
		}
	}
	for _, g := range []api.Graph{samples.Of(17, 0), samples.Of(17, 1), samples.Of(256, 64), samples.Whole(17), samples.Whole(256)} {
		for _, n := range append(noLengths, 0, 1, api.MaxLength) {
			checkFindError(t, g, n, api.ErrAlphabet)
		}
	}
	for _, g := range []api.Graph{samples.Golden(), samples.Whole(16), samples.Of(1, 0), samples.Of(16, 64)} {
		for _, n := range append(noLengths, math.MinInt32) {
			checkFindError(t, g, n, api.ErrRange)
		}
	}
}

// P14.1: no function changes its arguments, and what a caller does with results changes neither the arguments nor other results.
func TestMemory(t *testing.T) {
	for _, l := range [][]string{{"11"}, {"1", "11"}, {"00", "101", "111"}, {"10", "010", "0110"}} {
		before := slices.Clone(l)
		c := constraint{2, l}
		least, g := reduced(t, c), graphOf(t, c)
		words := found(t, g, 5)
		again, edges, found5 := slices.Clone(least), slices.Clone(g.Edges), slices.Clone(words)
		for i := range least[:cap(least)] {
			least[:cap(least)][i] = "x"
		}
		for i := range words[:cap(words)] {
			words[:cap(words)][i] = "y"
		}
		if slices.Contains(least, "y") || !slices.Equal(g.Edges, edges) || !slices.Equal(found(t, g, 5), found5) {
			t.Errorf("P14.1: results for %q share memory", before)
		}
		for i := range g.Edges[:cap(g.Edges)] {
			g.Edges[:cap(g.Edges)][i] = api.Edge{From: -9}
		}
		if !slices.Equal(l, before) || !slices.Equal(reduced(t, c), again) || !slices.Equal(graphOf(t, c).Edges, edges) {
			t.Errorf("P14.1: %q, or its results, have changed", before)
		}
		allowed(t, c, "0101")
	}
	mixed := []string{"111", "0", "111", "10"}
	before := slices.Clone(mixed)
	if l := reduced(t, constraint{2, mixed}); !slices.Equal(l, []string{"0", "111"}) || !slices.Equal(mixed, before) {
		t.Errorf("P14.1: Reduce %q: %q, and the list is %q", before, l, mixed)
	}
}
