package language_test

import (
	"math"
	"slices"
	"strings"
	"testing"

	"groove/api"
	"groove/language"
	"groove/samples"
)

// checkWordErrors checks the error of a graph or a word, which comes before those of a set, and that there is no other result.
func checkWordErrors(t *testing.T, g api.Graph, set []int, w string, want api.Errno) {
	t.Helper()
	if is, e := language.Accepts(g, w); e != want || is {
		t.Errorf("P11.1: Accepts %v, %q: %t, %d", g, short(w), is, e)
	}
	if ends, e := language.Ends(g, set, w); e != want || len(ends) > 0 {
		t.Errorf("P11.1: Ends %v, %v, %q: %v, %d", g, set, short(w), ends, e)
	}
	if following, e := language.Letters(g, w); e != want || following != "" {
		t.Errorf("P11.1: Letters %v, %q: %q, %d", g, short(w), following, e)
	}
	if path, e := language.Path(g, w); e != want || len(path) > 0 {
		t.Errorf("P11.1: Path %v, %q: %d edges, %d", g, short(w), len(path), e)
	}
}

// checkListErrors checks the error of a graph or a number of letters, which comes before those of states, and that there is no other result.
func checkListErrors(t *testing.T, g api.Graph, s, u, n int, want api.Errno) {
	t.Helper()
	if list, e := language.Words(g, n); e != want || len(list) > 0 {
		t.Errorf("P11.1: Words %v, %d: %v, %d", g, n, list, e)
	}
	if w, is, e := language.Missing(g, n); e != want || is || w != "" {
		t.Errorf("P11.1: Missing %v, %d: %q, %t, %d", g, n, w, is, e)
	}
	checkStateErrors(t, g, s, u, n, want)
}

// checkStateErrors checks the error of the functions that take states and a number of letters, and that there is no other result.
func checkStateErrors(t *testing.T, g api.Graph, s, u, n int, want api.Errno) {
	t.Helper()
	if list, e := language.From(g, s, n); e != want || len(list) > 0 {
		t.Errorf("P11.1: From %v, %d, %d: %v, %d", g, s, n, list, e)
	}
	if list, e := language.Between(g, s, u, n); e != want || len(list) > 0 {
		t.Errorf("P11.1: Between %v, %d, %d, %d: %v, %d", g, s, u, n, list, e)
	}
}

// noSets are lists that are no sets of states of any graph.
func noSets() [][]int {
	return [][]int{{-1}, {64}, {0, -1}, {math.MaxInt, 0}, {math.MinInt}, {1 << 32}, {1, 1}, {2, 1}}
}

// badWords are words that have other letters than 0 and 1, or too many of them.
func badWords() []string {
	return []string{"2", "02", "20", "012", "f", "g", " ", "0 1", "01\n", "\x00", "\xff", "é", "-1", strings.Repeat("0", api.MaxWord-1) + "2"}
}

// P11.1: graphs that are not valid, whatever else is wrong.
func TestFaults(t *testing.T) {
	tooLong := strings.Repeat("0", api.MaxWord+1)
	for _, g := range samples.Faults() {
		for _, w := range append(badWords(), "", "0", "1", "01", tooLong) {
			for _, set := range append(noSets(), nil, []int{0}, []int{0, 1}) {
				checkWordErrors(t, g, set, w, api.ErrArgument)
			}
		}
		for _, n := range append(noLengths(), 0, 1, 2, api.MaxPower) {
			for _, s := range []int{0, 1, -1, 64, math.MaxInt} {
				checkListErrors(t, g, s, 0, n, api.ErrArgument)
				checkListErrors(t, g, 0, s, n, api.ErrArgument)
			}
		}
	}
}

// P11.1: valid graphs with more labels than there are letters, whatever else is wrong.
func TestAlphabets(t *testing.T) {
	tooLong := strings.Repeat("0", api.MaxWord+1)
	for _, labels := range []int{17, 18, 32, 100, 255, 256} {
		for _, g := range []api.Graph{samples.Of(labels, 0), samples.Of(labels, 1), samples.Of(labels, 2, 0, 0, 1, 1, 16, 0)} {
			for _, w := range append(badWords(), "", "0", "01", tooLong) {
				for _, set := range append(noSets(), nil, []int{0}) {
					checkWordErrors(t, g, set, w, api.ErrAlphabet)
				}
			}
			for _, n := range append(noLengths(), 0, 1, api.MaxPower) {
				for _, s := range []int{0, 1, -1, 64, math.MaxInt} {
					checkListErrors(t, g, s, 0, n, api.ErrAlphabet)
					checkListErrors(t, g, 0, s, n, api.ErrAlphabet)
				}
			}
		}
	}
}

// P11.1: words with letters that the graph does not have, and words that are too long, also if sets are wrong, too.
func TestWrongWords(t *testing.T) {
	full0 := strings.Repeat("0", api.MaxWord)
	for _, set := range append(noSets(), nil, []int{0}, []int{0, 1}) {
		for _, g := range []api.Graph{samples.Golden(), full(2), samples.Of(2, 0), samples.Of(2, 64)} {
			for _, w := range badWords() {
				checkWordErrors(t, g, set, w, api.ErrWord)
			}
			for _, w := range []string{full0 + "0", full0 + "2", "x" + full0, full0 + full0} {
				checkWordErrors(t, g, set, w, api.ErrLimit)
			}
		}
		for q := 1; q < api.MaxLetter; q++ {
			checkWordErrors(t, samples.Of(q, 2, 0, 0, 1), set, letters[q:q+1], api.ErrWord)
			checkWordErrors(t, samples.Of(q, 2, 0, 0, 1), set, "0"+letters[q:q+1]+"0", api.ErrWord)
		}
		checkWordErrors(t, full(16), set, "g", api.ErrWord)
		checkWordErrors(t, full(16), set, "F", api.ErrWord)
	}
	for q := 1; q <= api.MaxLetter; q++ {
		if !accepts(t, full(q), letters[:q]) {
			t.Errorf("P11.1: Accepts all %d letters: false", q)
		}
	}
}

// P11.1: numbers of letters below 0 and above the greatest one, also if states are wrong, too; and both bounds.
func TestWrongLengths(t *testing.T) {
	for _, g := range []api.Graph{samples.Golden(), full(16), samples.Of(2, 0), samples.Of(1, 64)} {
		for _, n := range noLengths() {
			for _, s := range append(noStates(g), 0) {
				checkListErrors(t, g, s, 0, n, api.ErrRange)
				checkListErrors(t, g, 0, s, n, api.ErrRange)
			}
		}
	}
	g := samples.Of(2, 2, 0, 1, 1, 1, 0, 0)
	for n, want := range map[int]string{0: "", api.MaxPower: strings.Repeat("01", api.MaxPower/2)} {
		if list := wordsOf(t, g, n); list[0] != want {
			t.Errorf("P11.1: Words %v, %d: %q..", g, n, short(list[0]))
		}
		if list := fromOf(t, g, 1, n); !slices.Equal(list, []string{want}) {
			t.Errorf("P11.1: From %v, 1, %d: %d words", g, n, len(list))
		}
		if list := betweenOf(t, g, 1, 1, n); !slices.Equal(list, []string{want}) {
			t.Errorf("P11.1: Between %v, 1, 1, %d: %d words", g, n, len(list))
		}
	}
}

// P11.1: states that do not exist, each of both, before the limit.
func TestWrongStates(t *testing.T) {
	for _, g := range []api.Graph{samples.Golden(), full(16), samples.Of(2, 0), samples.Of(1, 63), chain(2, 64, true)} {
		for _, s := range noStates(g) {
			for _, n := range []int{0, 1, 4, 20, api.MaxPower} {
				checkStateErrors(t, g, s, s, n, api.ErrState)
				for u := range g.States {
					checkStateErrors(t, g, s, u, n, api.ErrState)
					if list, e := language.Between(g, u, s, n); e != api.ErrState || len(list) > 0 {
						t.Errorf("P11.1: Between %v, %d, %d, %d: %v, %d", g, u, s, n, list, e)
					}
				}
			}
		}
	}
}

// P11.1: lists that are no sets: a state that does not exist comes first, wherever it stands.
func TestWrongSets(t *testing.T) {
	g := chain(2, 5, true)
	check := func(set []int, want api.Errno) {
		t.Helper()
		for _, w := range []string{"", "0", "0110101"} {
			if ends, e := language.Ends(g, set, w); e != want || len(ends) > 0 {
				t.Errorf("P11.1: Ends %v, %v, %q: %v, %d", g, set, w, ends, e)
			}
		}
	}
	for _, s := range noStates(g) {
		for _, set := range [][]int{{s}, {0, s}, {s, 0}, {0, s, 1}, {s, s}, {1, 1, s}, {2, 1, s}, {s, 2, 1}, {1, s, 0}, {0, 1, 2, 3, 4, 4, s}} {
			check(set, api.ErrState)
		}
	}
	for _, set := range [][]int{{0, 0}, {1, 0}, {4, 4}, {4, 3}, {0, 1, 1}, {0, 0, 1}, {0, 2, 1}, {1, 0, 2}, {0, 1, 2, 3, 4, 0}, slices.Repeat([]int{3}, 100000)} {
		check(set, api.ErrOrder)
	}
	if ends, e := language.Ends(samples.Of(2, 0), []int{0}, ""); e != api.ErrState || len(ends) > 0 {
		t.Errorf("P11.1: Ends without states: %v, %d", ends, e)
	}
}

// P11.1: no function changes its arguments, and what a caller does with results changes neither the arguments nor other results.
func TestMemory(t *testing.T) {
	for _, g := range []api.Graph{samples.Golden(), samples.Stairs(), full(3), chain(2, 5, true)} {
		edges, set := slices.Clone(g.Edges), samples.All(g)
		for range 3 {
			ends, path := endsOf(t, g, set, ""), pathOf(t, g, "001")
			if !slices.Equal(ends, samples.All(g)) || !slices.Equal(path, pathOf(t, g, "001")) || !isPath(g, "001", path) {
				t.Fatalf("P11.1: ends or the path of %v have changed: %v, %v", g, ends, path)
			}
			for _, list := range [][]int{ends, path} {
				for i := range list {
					list[i] = -9
				}
			}
			for _, f := range []func() []string{func() []string { return wordsOf(t, g, 3) }, func() []string { return fromOf(t, g, 0, 3) }} {
				list := f()
				again := slices.Clone(list)
				for i := range list {
					list[i] = "x"
				}
				if !slices.Equal(f(), again) {
					t.Fatalf("P11.1: words of %v have changed", g)
				}
			}
			if !slices.Equal(g.Edges, edges) || !slices.Equal(set, samples.All(g)) {
				t.Fatalf("P11.1: %v, or a set of its states, has changed", g)
			}
		}
	}
}

// pathOf returns the path labelled with a word of a graph.
func pathOf(t *testing.T, g api.Graph, w string) []int {
	t.Helper()
	path, e := language.Path(g, w)
	if e != api.OK {
		t.Fatalf("P11.6: Path %v, %q: %d", g, w, e)
	}
	return path
}
