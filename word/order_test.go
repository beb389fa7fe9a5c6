package word_test

import (
	"math/rand"
	"slices"
	"strings"
	"testing"

	"groove/api"
	"groove/integer"
	"groove/samples"
	"groove/word"
)

// longest returns the greatest length of which there are at most MaxList words over q letters, by counting.
func longest(q int) int {
	n := 0
	for number := q; number <= api.MaxList && n < api.MaxWord; number *= q {
		n++
	}
	return n
}

// all returns the words of a length of which there are not too many.
func all(t *testing.T, q, n int) []string {
	t.Helper()
	list, e := word.All(q, n)
	if e != api.OK {
		t.Fatalf("P7.2: All %d, %d: %d", q, n, e)
	}
	return list
}

// P7.2: lists against the definition, up to the longest ones.
func TestAll(t *testing.T) {
	for q := 2; q <= api.MaxLetter; q++ {
		for n := range longest(q) + 1 {
			list := all(t, q, n)
			if !slices.Equal(list, samples.Strings(letters[:q], n)) || !slices.IsSorted(list) {
				t.Errorf("P7.2: All %d, %d: %d words", q, n, len(list))
			}
		}
	}
	for _, n := range []int{0, 1, 2, 12, 13, 4096, 4097, api.MaxWord - 1, api.MaxWord} {
		if list := all(t, 1, n); !slices.Equal(list, []string{strings.Repeat("0", n)}) {
			t.Errorf("P7.2: All 1, %d: %d words", n, len(list))
		}
	}
}

// P7.2: lists of MaxList words, and longer ones.
func TestLimits(t *testing.T) {
	for _, c := range [][2]int{{2, 12}, {4, 6}, {8, 4}, {16, 3}} {
		if list := all(t, c[0], c[1]); len(list) != api.MaxList || list[len(list)-1] != strings.Repeat(letters[c[0]-1:c[0]], c[1]) {
			t.Errorf("P7.2: All %v: %d words", c, len(list))
		}
	}
	for q := 2; q <= api.MaxLetter; q++ {
		// From some length on the number of words is no int.
		for _, n := range []int{longest(q) + 1, longest(q) + 2, 31, 32, 63, 64, 128, 65535, api.MaxWord} {
			if list, e := word.All(q, n); e != api.ErrLimit || len(list) > 0 {
				t.Errorf("P7.2: All %d, %d: %d words, %d", q, n, len(list), e)
			}
		}
	}
}

// P7.2: ranks are indices, and the next word stands behind each.
func TestIndices(t *testing.T) {
	for q := 1; q <= api.MaxLetter; q++ {
		for n := range min(longest(q), 5) + 1 {
			list := all(t, q, n)
			for i, w := range append(list, strings.Repeat("0", n+1))[:len(list)] {
				next, e := word.Next(q, w)
				want := strings.Repeat("0", n+1)
				if i+1 < len(list) {
					want = list[i+1]
				}
				if e != api.OK || next != want || rankOf(t, q, w) != of(i) {
					t.Fatalf("P7.2: the index %d of %d, %d: %q, %q, %d", i, q, n, w, next, e)
				}
			}
		}
	}
}

// P7.4: all words are met from the empty one on, in their order.
func TestNext(t *testing.T) {
	for q := 1; q <= api.MaxLetter; q++ {
		w := ""
		for _, want := range samples.StringsUpTo(letters[:q], min(longest(q), 40))[1:] {
			next, e := word.Next(q, w)
			if e != api.OK || next != want {
				t.Fatalf("P7.4: behind %q over %d letters: %q, %d", w, q, next, e)
			}
			w = next
		}
	}
}

// P7.4: the next word is greater and has the next rank, or is the first one with a letter more.
func TestNextRanks(t *testing.T) {
	r := rand.New(rand.NewSource(71))
	for i := range 3000 {
		q := 1 + r.Intn(api.MaxLetter)
		w := samples.String(r, letters[:q], r.Intn(40)) + strings.Repeat(letters[q-1:q], r.Intn(4)*(i%5))
		next, e := word.Next(q, w)
		if e != api.OK || word.Check(q, next) != api.OK {
			t.Fatalf("P7.4: behind %q over %d letters: %q, %d", w, q, next, e)
		}
		if w == strings.Repeat(letters[q-1:q], len(w)) {
			if next != strings.Repeat("0", len(w)+1) {
				t.Fatalf("P7.4: behind the last word %q over %d letters: %q", w, q, next)
			}
			continue
		}
		if len(next) != len(w) || next <= w || rankOf(t, q, next) != integer.Add(rankOf(t, q, w), of(1)) {
			t.Fatalf("P7.4: behind %q over %d letters: %q", w, q, next)
		}
	}
}

// P7.4: words of MaxWord letters, and those a letter shorter.
func TestNextLimit(t *testing.T) {
	for q := 1; q <= api.MaxLetter; q++ {
		full := strings.Repeat(letters[q-1:q], api.MaxWord)
		if next, e := word.Next(q, full); e != api.ErrLimit || next != "" {
			t.Errorf("P7.4: behind the last word over %d letters: %q, %d", q, short(next), e)
		}
		if next, e := word.Next(q, full[1:]); e != api.OK || next != strings.Repeat("0", api.MaxWord) {
			t.Errorf("P7.4: behind the last word over %d letters that is shorter: %q, %d", q, short(next), e)
		}
		if q == 1 {
			continue
		}
		zeros := strings.Repeat("0", api.MaxWord)
		for _, c := range [][2]string{{"0" + full[1:], "1" + zeros[1:]}, {full[1:] + "0", full[1:] + "1"}, {zeros, zeros[1:] + "1"}} {
			if next, e := word.Next(q, c[0]); e != api.OK || next != c[1] {
				t.Errorf("P7.4: behind %q over %d letters: %q, %d", short(c[0]), q, short(next), e)
			}
		}
	}
}
