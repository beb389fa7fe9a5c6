package runs_test

import (
	"math"
	"math/rand"
	"slices"
	"strings"
	"testing"

	"groove/api"
	"groove/runs"
)

// isSplit returns whether a list has the runs of w, by the definition: parts of equal letters that follow each other, none of which can be longer.
func isSplit(l []api.Run, w string) bool {
	at := 0
	for _, run := range l {
		if run.Letter < 0 || run.Letter > 15 || run.Length < 1 || at+run.Length > len(w) {
			return false
		}
		letter := letters[run.Letter]
		if at > 0 && w[at-1] == letter {
			return false
		}
		for range run.Length {
			if w[at] != letter {
				return false
			}
			at++
		}
	}
	return at == len(w)
}

// longest returns the length of the longest run of a letter, by the definition: the longest word of this letter alone that occurs in w.
func longest(w string, letter byte) int {
	n := 0
	for strings.Contains(w, strings.Repeat(string(letter), n+1)) {
		n++
	}
	return n
}

// P8.2: the runs of all kinds of words, against the definition; joining them leads back.
func TestSplit(t *testing.T) {
	for _, w := range mixed(21) {
		l := splitOf(t, w)
		if !isSplit(l, w) {
			t.Fatalf("P8.2: Split %q: %d runs", short(w), len(l))
		}
		if back, e := runs.Join(l); e != api.OK || back != w {
			t.Fatalf("P8.2: Join of the runs of %q: %q, %d", short(w), short(back), e)
		}
	}
}

// P8.2: known runs, in both directions: none, one, and words without two equal neighbours.
func TestKnownRuns(t *testing.T) {
	for _, c := range []struct {
		w string
		l []api.Run
	}{
		{"", nil}, {"0", of(0, 1)}, {"f", of(15, 1)}, {"1111", of(1, 4)}, {"0101", of(0, 1, 1, 1, 0, 1, 1, 1)}, {"9a", of(9, 1, 10, 1)},
		{"f00f", of(15, 1, 0, 2, 15, 1)}, {"0001", of(0, 3, 1, 1)}, {"1000", of(1, 1, 0, 3)}, {"aabbbbc", of(10, 2, 11, 4, 12, 1)},
		{full("0"), of(0, api.MaxWord)}, {full("f"), of(15, api.MaxWord)}, {full("0")[1:] + "1", of(0, api.MaxWord-1, 1, 1)},
	} {
		if l, e := runs.Split(c.w); e != api.OK || !slices.Equal(l, c.l) {
			t.Errorf("P8.2: Split %q: %d runs, %d", short(c.w), len(l), e)
		}
		if w, e := runs.Join(c.l); e != api.OK || w != c.w {
			t.Errorf("P8.2: Join %v: %q, %d", c.l, short(w), e)
		}
	}
	if w, e := runs.Join([]api.Run{}); e != api.OK || w != "" {
		t.Errorf("P8.2: Join no runs: %q, %d", w, e)
	}
}

// randomList returns n runs with other letters than the ones before, of up to most letters.
func randomList(r *rand.Rand, n, most int) []api.Run {
	list := make([]api.Run, n)
	letter := r.Intn(16)
	for i := range list {
		letter = (letter + 1 + r.Intn(15)) % 16
		list[i] = api.Run{Letter: letter, Length: 1 + r.Intn(most)}
	}
	return list
}

// P8.2: splitting what runs are joined to leads back to them, and joining does not change them.
func TestJoin(t *testing.T) {
	r := rand.New(rand.NewSource(22))
	for i := range 1000 {
		list := randomList(r, i%50, 1+r.Intn(1000))
		kept := slices.Clone(list)
		w, e := runs.Join(list)
		if e != api.OK || !isSplit(list, w) || !slices.Equal(list, kept) {
			t.Fatalf("P8.2: Join %v: %q, %d", list, short(w), e)
		}
		if back := splitOf(t, w); !slices.Equal(back, list) {
			t.Fatalf("P8.2: Split of the joined runs %v: %v", list, back)
		}
	}
}

// P8.2: the longest run of each letter is one of the runs, and none is longer; letters that do not occur have none.
func TestLongest(t *testing.T) {
	for _, w := range mixed(23) {
		greatest := [16]int{}
		for _, run := range splitOf(t, w) {
			greatest[run.Letter] = max(greatest[run.Letter], run.Length)
		}
		for letter, want := range greatest {
			n, e := runs.Longest(w, letter)
			if e != api.OK || n != want {
				t.Fatalf("P8.2: Longest %q, %d: %d, %d", short(w), letter, n, e)
			}
			if len(w) < 100 && n != longest(w, letters[letter]) {
				t.Fatalf("P8.2: Longest %q, %d by the definition: %d", w, letter, n)
			}
		}
	}
}

// P8.2: known longest runs: at the start, within, at the end, several of them, and none.
func TestKnownLongest(t *testing.T) {
	for _, c := range []struct {
		w            string
		letter, want int
	}{
		{"", 0, 0}, {"", 15, 0}, {"0", 0, 1}, {"0", 1, 0}, {"f", 15, 1}, {"f", 0, 0}, {"1110110", 1, 3}, {"0110111", 1, 3}, {"0111010", 1, 3}, {"110110", 1, 2}, {"101010", 1, 1}, {"101010", 0, 1},
		{"ffaaaf", 15, 2}, {"ffaaaf", 10, 3}, {"ffaaaf", 11, 0}, {full("0"), 0, api.MaxWord}, {full("0"), 1, 0}, {full("f"), 15, api.MaxWord}, {"1" + full("0")[1:], 0, api.MaxWord - 1}, {full("01"), 1, 1},
	} {
		if n, e := runs.Longest(c.w, c.letter); e != api.OK || n != c.want {
			t.Errorf("P8.2: Longest %q, %d: %d, %d", short(c.w), c.letter, n, e)
		}
	}
}

// checkJoin checks the error of runs, and that there is no word beside it.
func checkJoin(t *testing.T, l []api.Run, want api.Errno) {
	t.Helper()
	if w, e := runs.Join(l); e != want || w != "" {
		t.Errorf("P8.1: Join of %d runs, %v: %q, %d", len(l), l[:min(4, len(l))], short(w), e)
	}
}

// P8.1: runs with one error each: the first one, and one behind others.
func TestErrorsOfRuns(t *testing.T) {
	before := of(0, 2, 15, 1)
	for _, c := range []struct {
		letters, lengths []int
		want             api.Errno
	}{
		{numbers(), []int{1, 5, api.MaxWord}, api.ErrWord},
		{[]int{0, 1, 14}, []int{0, -1, -2, -65536, math.MinInt, math.MinInt + 1}, api.ErrRange},
		{[]int{0, 1, 14}, []int{api.MaxWord + 1, api.MaxWord + 2, 1 << 32, 1<<32 + 1, math.MaxInt - 1, math.MaxInt}, api.ErrLimit},
	} {
		for _, letter := range c.letters {
			for _, length := range c.lengths {
				run := api.Run{Letter: letter, Length: length}
				checkJoin(t, []api.Run{run}, c.want)
				checkJoin(t, append(before[:2:2], run), c.want)
				checkJoin(t, append([]api.Run{run}, before...), c.want)
			}
		}
	}
	for letter := range 16 {
		checkJoin(t, of(letter, 1, letter, 1), api.ErrMismatch)
		checkJoin(t, of((letter+1)%16, 3, letter, 1, letter, 2), api.ErrMismatch)
	}
}

// P8.1: the order of the errors of one run, and that of several runs.
func TestOrderOfErrors(t *testing.T) {
	for _, c := range []struct {
		l    []api.Run
		want api.Errno
	}{
		{of(16, 0), api.ErrWord}, {of(-1, api.MaxWord+1), api.ErrWord}, {of(16, math.MaxInt), api.ErrWord},
		{of(1, 1, 1, 0), api.ErrRange}, {of(1, 1, 1, -5), api.ErrRange},
		{of(1, 1, 1, api.MaxWord), api.ErrMismatch}, {of(1, api.MaxWord, 1, math.MaxInt), api.ErrMismatch},
		{of(1, api.MaxWord, 0, 0), api.ErrRange}, {of(1, api.MaxWord, 16, 1), api.ErrWord},
		// The first run with an error decides, whatever error it has.
		{of(0, api.MaxWord, 1, 1, 1, 0, 16, 1), api.ErrLimit}, {of(0, api.MaxWord+1, 16, 1), api.ErrLimit},
		{of(0, 1, 0, 1, 1, 0, 16, 1), api.ErrMismatch}, {of(0, 1, 1, 0, 1, 1, 16, 1), api.ErrRange}, {of(0, 0, 16, 1), api.ErrRange},
		{of(16, 1, 0, 0, 0, api.MaxWord+1), api.ErrWord},
		// A run with an error is the run before, too, but its own error comes first.
		{of(16, 1, 16, 1), api.ErrWord}, {of(3, 0, 3, 1), api.ErrRange},
	} {
		checkJoin(t, c.l, c.want)
	}
}

// P8.1: runs that together have MaxWord letters, one letter more, and so many that their sum would be no int.
func TestSums(t *testing.T) {
	for _, l := range [][]api.Run{of(0, api.MaxWord), of(0, api.MaxWord-1, 1, 1), of(15, 1, 0, api.MaxWord-1), of(0, 32768, 1, 32768), of(1, 1, 0, api.MaxWord-2, 1, 1)} {
		w, e := runs.Join(l)
		if e != api.OK || len(w) != api.MaxWord || !isSplit(l, w) {
			t.Errorf("P8.1: Join %v: %d letters, %d", l, len(w), e)
		}
		for i := range l {
			longer := slices.Clone(l)
			longer[i].Length++
			checkJoin(t, longer, api.ErrLimit)
			for _, length := range []int{math.MaxInt, math.MaxInt - 1, math.MaxInt - api.MaxWord, math.MaxInt - api.MaxWord + 1, math.MaxInt/2 + 1, math.MaxUint32, math.MaxUint32 + 1} {
				longer[i].Length = length
				checkJoin(t, longer, api.ErrLimit)
			}
		}
		checkJoin(t, append(slices.Clone(l), api.Run{Letter: 7, Length: 1}), api.ErrLimit)
	}
	huge := of(0, math.MaxInt, 1, math.MaxInt, 0, 2)
	checkJoin(t, huge, api.ErrLimit)
	checkJoin(t, append(of(2, 2), huge...), api.ErrLimit)
}

// P8.1: MaxWord runs of one letter, and one run more.
func TestManyRuns(t *testing.T) {
	list := make([]api.Run, api.MaxWord+1)
	for i := range list {
		list[i] = api.Run{Letter: i % 16, Length: 1}
	}
	if w, e := runs.Join(list[:api.MaxWord]); e != api.OK || w != full(letters) {
		t.Errorf("P8.1: Join of MaxWord runs: %d letters, %d", len(w), e)
	}
	if l := splitOf(t, full(letters)); !slices.Equal(l, list[:api.MaxWord]) {
		t.Errorf("P8.1: Split to MaxWord runs: %d", len(l))
	}
	checkJoin(t, list, api.ErrLimit)
}
