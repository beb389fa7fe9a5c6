package word_test

import (
	"math"
	"slices"
	"strings"
	"testing"

	"groove/api"
	"groove/integer"
	"groove/samples"
	"groove/word"
)

// P7.1: the examples of the chapter.
func TestExamples(t *testing.T) {
	for _, c := range [][2]string{{"011", "100"}, {"111", "0000"}} {
		if w, e := word.Next(2, c[0]); e != api.OK || w != c[1] {
			t.Errorf("P7.1: behind %s: %q, %d", c[0], w, e)
		}
	}
	if a, e := word.Rank(2, "101"); e != api.OK || integer.Print(a) != "5" {
		t.Errorf("P7.1: Rank: %#v, %d", a, e)
	}
	if list := word.Find("01010", "010"); !slices.Equal(list, []int{0, 2}) {
		t.Errorf("P7.1: Find: %v", list)
	}
	if word.Border("01010") != 3 || word.Period("01010") != 2 {
		t.Errorf("P7.1: the border and the period: %d, %d", word.Border("01010"), word.Period("01010"))
	}
	if u, k := word.Root("010101"); u != "01" || k != 3 {
		t.Errorf("P7.1: Root: %q, %d", u, k)
	}
}

// P7.1: each byte alone, and within a word, for all alphabets.
func TestBytes(t *testing.T) {
	for q := 1; q <= api.MaxLetter; q++ {
		for b := range 256 {
			s := string([]byte{byte(b)})
			want := api.ErrWord
			if strings.Contains(letters[:q], s) {
				want = api.OK
			}
			for _, w := range []string{s, "00" + s, s + "000", "0" + s + letters[:q], s + "0" + s, strings.Repeat(s, 50)} {
				if e := word.Check(q, w); e != want {
					t.Errorf("P7.1: Check %q over %d letters: %d", w, q, e)
				}
			}
		}
		if e := word.Check(q, ""); e != api.OK {
			t.Errorf("P7.1: Check the empty word over %d letters: %d", q, e)
		}
	}
}

// bad are strings with other bytes than letters of small alphabets: capitals, spaces, runes of more bytes, and bytes that are no runes.
var bad = []string{"F", "0A", "0 1", " 0", "0 ", "01\n", "0\x00", "\xff", "0\x80", "é", "0１", "012", "21", "-1", "0x1", "g"}

// P7.1: strings with other bytes, in all functions that take words.
func TestOtherBytes(t *testing.T) {
	for _, w := range bad {
		if e := word.Check(2, w); e != api.ErrWord {
			t.Errorf("P7.1: Check %q: %d", w, e)
		}
		if next, e := word.Next(2, w); e != api.ErrWord || next != "" {
			t.Errorf("P7.1: Next %q: %q, %d", w, next, e)
		}
		if a, e := word.Rank(2, w); e != api.ErrWord || a != (api.Int{}) {
			t.Errorf("P7.1: Rank %q: %#v, %d", w, a, e)
		}
	}
	if e := word.Check(16, letters); e != api.OK {
		t.Errorf("P7.1: Check all letters: %d", e)
	}
	if e := word.Check(15, letters); e != api.ErrWord {
		t.Errorf("P7.1: Check all letters over one less: %d", e)
	}
}

// P7.1: the order of the errors of a word: its alphabet, its length, its bytes.
func TestErrorsOfWords(t *testing.T) {
	full := strings.Repeat("0", api.MaxWord)
	for _, q := range []int{1, 2, 7, api.MaxLetter} {
		for _, c := range []struct {
			w    string
			want api.Errno
		}{{full, api.OK}, {full + "0", api.ErrLimit}, {full + "x", api.ErrLimit}, {"x" + full, api.ErrLimit}, {full[1:] + "x", api.ErrWord}, {"x" + full[1:], api.ErrWord}, {full + full, api.ErrLimit}} {
			checkErrors(t, q, c.w, c.want)
		}
	}
	for _, q := range noAlphabets() {
		for _, w := range []string{"", "0", "x", full, full + "x"} {
			checkErrors(t, q, w, api.ErrAlphabet)
		}
	}
}

// checkErrors checks the error of a word, and that there is no result beside it.
func checkErrors(t *testing.T, q int, w string, want api.Errno) {
	t.Helper()
	if e := word.Check(q, w); e != want {
		t.Errorf("P7.1: Check %q, %d letters over %d: %d", short(w), len(w), q, e)
	}
	a, e := word.Rank(q, w)
	if e != want || a != (api.Int{}) {
		t.Errorf("P7.1: Rank of %q, %d letters over %d: %#v, %d", short(w), len(w), q, a, e)
	}
	if want == api.OK {
		return
	}
	if next, e := word.Next(q, w); e != want || next != "" {
		t.Errorf("P7.1: Next of %q, %d letters over %d: %q, %d", short(w), len(w), q, short(next), e)
	}
}

// P7.1: the order of the errors of a length: its alphabet, whether it is negative, the limits.
func TestErrorsOfLengths(t *testing.T) {
	lengths := []int{-1, -2, math.MinInt, 0, 1, api.MaxWord, api.MaxWord + 1, math.MaxInt}
	for _, q := range noAlphabets() {
		for _, n := range lengths {
			checkLength(t, q, n, api.ErrAlphabet)
		}
	}
	for q := 1; q <= api.MaxLetter; q++ {
		for _, n := range []int{-1, -2, -65536, math.MinInt} {
			checkLength(t, q, n, api.ErrRange)
		}
		for _, n := range []int{api.MaxWord + 1, api.MaxWord + 2, 1 << 32, math.MaxInt} {
			checkLength(t, q, n, api.ErrLimit)
		}
	}
}

// checkLength checks the error of a length, whatever the rank is.
func checkLength(t *testing.T, q, n int, want api.Errno) {
	t.Helper()
	if list, e := word.All(q, n); e != want || len(list) > 0 {
		t.Errorf("P7.1: All %d, %d: %d words, %d", q, n, len(list), e)
	}
	for _, a := range append(loose(), of(0), of(1), of(-1)) {
		if w, e := word.Unrank(q, n, a); e != want || w != "" {
			t.Errorf("P7.1: Unrank %d, %d, %#v: %q, %d", q, n, a, short(w), e)
		}
	}
}

// P7.1: what a caller does with a result, and repeated calls.
func TestRepeated(t *testing.T) {
	first := all(t, 2, 3)
	first[0], first[7] = "x", "y"
	if again := all(t, 2, 3); !slices.Equal(again, samples.Strings("01", 3)) {
		t.Errorf("P7.1: All again: %v", again)
	}
	found := word.Find("0000", "0")
	found[0] = 9
	if again := word.Find("0000", "0"); !slices.Equal(again, []int{0, 1, 2, 3}) {
		t.Errorf("P7.1: Find again: %v", again)
	}
}
