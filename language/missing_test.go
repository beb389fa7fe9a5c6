package language_test

import (
	"strings"
	"testing"

	"groove/api"
	"groove/language"
	"groove/samples"
	"groove/word"
)

// P11.7: the first missing words of graphs of all kinds, against the definition, for each number of letters up to which all words can be looked at.
func TestMissing(t *testing.T) {
	some, none := 0, 0
	for _, g := range graphs(61) {
		want, found := "", false
		for n := range depth(g) + 1 {
			for _, w := range samples.Strings(letters[:g.Labels], n) {
				if !found && !tableOf(g, w).isWord() {
					want, found = w, true
				}
			}
			if w, is, e := language.Missing(g, n); e != api.OK || is != found || w != want {
				t.Fatalf("P11.7: Missing %v, %d: %q, %t, %d, not %q, %t", g, n, w, is, e, want, found)
			}
			if found {
				some++
			} else {
				none++
			}
		}
	}
	if some < 1000 || none < 1000 {
		t.Errorf("P11.7: %d words, none %d times", some, none)
	}
}

// P11.7: the first missing word, if there is one, is missing, and no word before it is; it does not depend on the greatest number of letters.
func TestFirstMissing(t *testing.T) {
	limited := 0
	for _, g := range graphs(62) {
		if g.Labels > 4 {
			continue
		}
		most := api.MaxPower
		if g.Labels == 1 {
			// The word of each length is the only one, so the limit is not reached.
			most = 100
		}
		w, is, e := language.Missing(g, most)
		if e == api.ErrLimit {
			limited++
		}
		if !is {
			continue
		}
		if accepts(t, g, w) {
			t.Fatalf("P11.7: Missing %v: %q, which is a word", g, w)
		}
		if u, is, e := language.Missing(g, len(w)); u != w || !is || e != api.OK {
			t.Fatalf("P11.7: Missing %v, %d: %q, %t, %d, not %q", g, len(w), u, is, e, w)
		}
		if w != "" {
			if u, is, e := language.Missing(g, len(w)-1); u != "" || is || e != api.OK {
				t.Fatalf("P11.7: Missing %v, %d: %q, %t, %d", g, len(w)-1, u, is, e)
			}
		}
		for u := ""; u != w; u, _ = word.Next(g.Labels, u) {
			if !accepts(t, g, u) {
				t.Fatalf("P11.7: Missing %v: %q, but %q is missing, too", g, w, u)
			}
		}
	}
	if limited < 10 {
		t.Errorf("P11.7: the limit is reached %d times", limited)
	}
}

// P11.7: known missing words, the empty one and longer ones, if n is less than their numbers of letters, equal, and greater.
func TestKnownMissing(t *testing.T) {
	zeros, ones := strings.Repeat("0", 64), strings.Repeat("1", 64)
	for i, c := range []struct {
		g    api.Graph
		want string
	}{
		{samples.Of(1, 0), ""}, {samples.Of(2, 0), ""}, {samples.Of(16, 0), ""}, {samples.Of(1, 1), "0"}, {samples.Of(2, 1), "0"}, {samples.Of(16, 64), "0"}, {samples.Of(2, 1, 0, 0, 0), "1"}, {samples.Of(2, 1, 0, 1, 0), "0"}, {samples.Of(3, 2, 0, 0, 0, 0, 1, 1, 1, 0, 0), "2"}, {samples.Of(16, 2, 0, 0, 1, 0, 1, 1, 1, 2, 1), "3"},
		{samples.Golden(), "11"}, {samples.Stairs(), "10"}, {samples.Of(2, 2, 0, 0, 1, 1, 1, 0), "00"}, {chain(2, 5, false), "00000"}, {chain(1, 64, false), zeros}, {samples.Beside(chain(2, 3, false), samples.Golden()), "011"}, {samples.Beside(samples.Golden(), chain(2, 4, false)), "0011"},
		{without(2, "1"), "1"}, {without(2, "01"), "01"}, {without(2, "0110"), "0110"}, {without(3, "222"), "222"}, {without(3, "201"), "201"}, {without(16, "f"), "f"}, {without(16, "a0"), "a0"},
		// There may be too many words of the length of the missing one, but not of a lesser length.
		{without(2, ones[:12]), ones[:12]}, {without(2, ones[:13]), ones[:13]}, {without(2, zeros[:13]), zeros[:13]}, {without(2, "0101100101101"), "0101100101101"}, {without(4, "3333333"), "3333333"}, {without(4, "0123210"), "0123210"}, {without(8, "77777"), "77777"}, {without(8, "01234"), "01234"}, {without(16, "ffff"), "ffff"}, {without(16, "0000"), "0000"}, {without(16, "8f07"), "8f07"}, {chain(2, 13, false), zeros[:13]}, {chain(4, 7, false), zeros[:7]}, {without(3, "22222222"), "22222222"},
	} {
		for n := range len(c.want) + 3 {
			checkMissing(t, i, c.g, n, n >= len(c.want), c.want, api.OK)
		}
		checkMissing(t, i, c.g, 100, true, c.want, api.OK)
		checkMissing(t, i, c.g, api.MaxPower, true, c.want, api.OK)
	}
}

// P11.7: graphs that no word is missing in, up to the number of letters of which there are too many words: longer ones that are missing do not count.
func TestMissingAtLimit(t *testing.T) {
	ones := strings.Repeat("1", 64)
	for i, c := range []struct {
		g api.Graph
		// most is the greatest number of letters of which there are not too many words.
		most int
	}{
		{full(2), 12}, {full(3), 7}, {full(4), 6}, {full(5), 5}, {full(6), 4}, {full(8), 4}, {full(15), 3}, {full(16), 3}, {chain(2, 64, true), 12}, {samples.Beside(samples.Golden(), full(2)), 12}, {full(1), api.MaxPower}, {chain(1, 64, true), api.MaxPower},
		{without(2, ones[:14]), 12}, {without(2, ones[:64]), 12}, {without(2, "00101101001011"), 12}, {without(4, "33333333"), 6}, {without(16, "fffff"), 3}, {without(16, "00000"), 3}, {without(3, "222222222"), 7}, {chain(2, 14, false), 12}, {chain(16, 5, false), 3}, {chain(4, 8, false), 6},
	} {
		for _, n := range []int{0, 1, 2, c.most - 1, c.most} {
			checkMissing(t, i, c.g, n, false, "", api.OK)
		}
		for _, n := range []int{c.most + 1, c.most + 2, c.most + 3, 100, api.MaxPower} {
			if c.most < n && n <= api.MaxPower {
				checkMissing(t, i, c.g, n, false, "", api.ErrLimit)
			}
		}
	}
}

// checkMissing checks what is said of the first missing word of at most n letters, which is returned only if there is one.
func checkMissing(t *testing.T, i int, g api.Graph, n int, found bool, want string, e api.Errno) {
	t.Helper()
	if !found {
		want = ""
	}
	if w, is, f := language.Missing(g, n); w != want || is != found || f != e {
		t.Errorf("P11.7: case %d: Missing, %d: %q, %t, %d", i, n, w, is, f)
	}
}
