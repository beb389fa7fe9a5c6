package runs_test

import (
	"slices"
	"strings"
	"testing"

	"groove/api"
	"groove/runs"
)

// P8.1: the example of the chapter.
func TestExample(t *testing.T) {
	const w = "0010111"
	if l, e := runs.Split(w); e != api.OK || !slices.Equal(l, of(0, 2, 1, 1, 0, 1, 1, 3)) {
		t.Errorf("P8.1: Split: %v, %d", l, e)
	}
	if x, e := runs.Levels(0, w); e != api.OK || x != "0011010" {
		t.Errorf("P8.1: Levels: %q, %d", x, e)
	}
	if l, e := runs.Charges(w); e != api.OK || !slices.Equal(l, []int{0, -1, -2, -1, -2, -1, 0, 1}) {
		t.Errorf("P8.1: Charges: %v, %d", l, e)
	}
	if low, high, e := runs.Range(w); e != api.OK || low != -2 || high != 1 {
		t.Errorf("P8.1: Range: %d, %d, %d", low, high, e)
	}
	if d, e := runs.Disparity(w); e != api.OK || d != 1 {
		t.Errorf("P8.1: Disparity: %d, %d", d, e)
	}
	if n, e := runs.Longest(w, 1); e != api.OK || n != 3 {
		t.Errorf("P8.1: Longest: %d, %d", n, e)
	}
}

// checkWord checks the error of a string that is no word, and that there is no result beside it.
func checkWord(t *testing.T, w string, want api.Errno) {
	t.Helper()
	if l, e := runs.Split(w); e != want || len(l) > 0 {
		t.Errorf("P8.1: Split of %q, %d letters: %d runs, %d", short(w), len(w), len(l), e)
	}
	// The error of the word comes before that of the number.
	for _, letter := range append(numbers(), 0, 1, 15) {
		if n, e := runs.Longest(w, letter); e != want || n != 0 {
			t.Errorf("P8.1: Longest of %q, %d letters, %d: %d, %d", short(w), len(w), letter, n, e)
		}
	}
}

// checkBinary checks the error of a string that is no binary word, and that there is no result beside it.
func checkBinary(t *testing.T, w string, want api.Errno) {
	t.Helper()
	// The error of the word comes before that of the level.
	for _, start := range append(starts(), 0, 1) {
		if x, e := runs.Levels(start, w); e != want || x != "" {
			t.Errorf("P8.1: Levels %d of %q, %d letters: %q, %d", start, short(w), len(w), short(x), e)
		}
		if x, e := runs.Transitions(start, w); e != want || x != "" {
			t.Errorf("P8.1: Transitions %d of %q, %d letters: %q, %d", start, short(w), len(w), short(x), e)
		}
	}
	if l, e := runs.Charges(w); e != want || len(l) > 0 {
		t.Errorf("P8.1: Charges of %q, %d letters: %d charges, %d", short(w), len(w), len(l), e)
	}
	if d, e := runs.Disparity(w); e != want || d != 0 {
		t.Errorf("P8.1: Disparity of %q, %d letters: %d, %d", short(w), len(w), d, e)
	}
	if low, high, e := runs.Range(w); e != want || low != 0 || high != 0 {
		t.Errorf("P8.1: Range of %q, %d letters: %d, %d, %d", short(w), len(w), low, high, e)
	}
}

// P8.1: strings with other bytes, alone and in words; letters that binary words do not have.
func TestOtherLetters(t *testing.T) {
	for _, s := range others() {
		for _, w := range []string{s, s + "0110", "1100" + s, "01" + s + "10", full("01")[len(s):] + s, s + full("0")[len(s):]} {
			checkWord(t, w, api.ErrWord)
			checkBinary(t, w, api.ErrWord)
		}
	}
	for _, s := range noBits() {
		for _, w := range []string{s, s + "0110", "1100" + s, "01" + s + "10", full("01")[len(s):] + s} {
			splitOf(t, w)
			checkBinary(t, w, api.ErrWord)
		}
	}
}

// P8.1: each byte alone, and behind another letter.
func TestBytes(t *testing.T) {
	for b := range 256 {
		s := string([]byte{byte(b)})
		number := strings.Index(letters, s)
		if number < 0 {
			checkWord(t, s, api.ErrWord)
			checkWord(t, "0"+s, api.ErrWord)
		} else if l := splitOf(t, s); !slices.Equal(l, of(number, 1)) {
			t.Errorf("P8.1: Split %q: %v", s, l)
		}
		if number < 0 || number > 1 {
			checkBinary(t, s, api.ErrWord)
			checkBinary(t, "1"+s, api.ErrWord)
		} else if d := disparityOf(t, s); d != 2*number-1 {
			t.Errorf("P8.1: Disparity %q: %d", s, d)
		}
	}
}

// P8.1: words with more than MaxWord letters; this error comes before that of other letters.
func TestLongWords(t *testing.T) {
	for _, u := range []string{"0", "1", "01", "0110"} {
		w := full(u)
		for _, long := range []string{w + "0", w + "1", w + "x", "x" + w, w + "2", w + w, w[1:] + "é"} {
			checkWord(t, long, api.ErrLimit)
			checkBinary(t, long, api.ErrLimit)
		}
		checkWord(t, w[1:]+"x", api.ErrWord)
		checkBinary(t, w[1:]+"2", api.ErrWord)
	}
	checkWord(t, full(letters)+"0", api.ErrLimit)
	checkBinary(t, full(letters)+"0", api.ErrLimit)
}

// P8.1: numbers that no letter has, for all kinds of words.
func TestOtherNumbers(t *testing.T) {
	for _, w := range []string{"", "0", "f", letters, "0011", full("0"), full(letters)} {
		for _, letter := range numbers() {
			if n, e := runs.Longest(w, letter); e != api.ErrRange || n != 0 {
				t.Errorf("P8.1: Longest %q, %d: %d, %d", short(w), letter, n, e)
			}
		}
	}
}

// P8.1: starts that are no levels, for all kinds of binary words.
func TestOtherStarts(t *testing.T) {
	for _, w := range []string{"", "0", "1", "0011", full("01")} {
		for _, start := range starts() {
			if x, e := runs.Levels(start, w); e != api.ErrRange || x != "" {
				t.Errorf("P8.1: Levels %d, %q: %q, %d", start, short(w), short(x), e)
			}
			if x, e := runs.Transitions(start, w); e != api.ErrRange || x != "" {
				t.Errorf("P8.1: Transitions %d, %q: %q, %d", start, short(w), short(x), e)
			}
		}
	}
}

// P8.1: what a caller does with a result, and repeated calls.
func TestRepeated(t *testing.T) {
	first := splitOf(t, "0110")
	first[0], first[1] = api.Run{Letter: 9, Length: 9}, api.Run{}
	if again := splitOf(t, "0110"); !slices.Equal(again, of(0, 1, 1, 2, 0, 1)) {
		t.Errorf("P8.1: Split again: %v", again)
	}
	charges := chargesOf(t, "0110")
	charges[0], charges[4] = 7, 7
	if again := chargesOf(t, "0110"); !slices.Equal(again, []int{0, -1, 0, 1, 0}) {
		t.Errorf("P8.1: Charges again: %v", again)
	}
}
