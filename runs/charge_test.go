package runs_test

import (
	"math/rand"
	"slices"
	"strings"
	"testing"

	"groove/api"
	"groove/runs"
	"groove/samples"
	"groove/word"
)

// charge returns the charge of a binary word, by the definition.
func charge(w string) int {
	return strings.Count(w, "1") - strings.Count(w, "0")
}

// rangeOf returns the least and the greatest charge of a word that is valid.
func rangeOf(t *testing.T, w string) (int, int) {
	t.Helper()
	low, high, e := runs.Range(w)
	if e != api.OK {
		t.Fatalf("P8.1: Range %q: %d", short(w), e)
	}
	return low, high
}

// P8.4: the charges of all beginnings against the definition; neighbouring ones differ by 1.
func TestCharges(t *testing.T) {
	for _, w := range binaries(41) {
		list := chargesOf(t, w)
		if len(list) != len(w)+1 || list[0] != 0 {
			t.Fatalf("P8.4: Charges %q: %d", short(w), len(list))
		}
		for i := range list {
			if i > 0 && list[i]-list[i-1] != charge(w[i-1:i]) {
				t.Fatalf("P8.4: Charges %q: %d behind %d", short(w), list[i], list[i-1])
			}
			if len(w) < 1000 && list[i] != charge(w[:i]) {
				t.Fatalf("P8.4: Charges %q: %d behind %d letters", short(w), list[i], i)
			}
		}
	}
}

// P8.4: the disparity is the charge of the word, and the range that of the charges.
func TestDisparity(t *testing.T) {
	for _, w := range binaries(42) {
		list := chargesOf(t, w)
		if d := disparityOf(t, w); d != charge(w) || d != list[len(w)] {
			t.Fatalf("P8.4: Disparity %q: %d", short(w), d)
		}
		slices.Sort(list)
		if low, high := rangeOf(t, w); low != list[0] || high != list[len(w)] {
			t.Fatalf("P8.4: Range %q: %d, %d", short(w), low, high)
		}
	}
}

// checkTogether checks the charges of a word that is put together.
func checkTogether(t *testing.T, v, w string) {
	t.Helper()
	want, d := chargesOf(t, v), disparityOf(t, v)
	for _, c := range chargesOf(t, w)[1:] {
		want = append(want, c+d)
	}
	if list := chargesOf(t, v+w); !slices.Equal(list, want) {
		t.Fatalf("P8.4: Charges of %q and %q: %d", short(v), short(w), len(list))
	}
	if whole := disparityOf(t, v+w); whole != d+disparityOf(t, w) {
		t.Fatalf("P8.4: Disparity of %q and %q: %d", short(v), short(w), whole)
	}
}

// P8.4: words that are put together of all short ones, and of longer ones.
func TestTogether(t *testing.T) {
	list := samples.StringsUpTo("01", 5)
	for _, v := range list {
		for _, w := range list {
			checkTogether(t, v, w)
		}
	}
	r := rand.New(rand.NewSource(43))
	for range 300 {
		checkTogether(t, samples.String(r, "01", r.Intn(200)), samples.String(r, "0111"[r.Intn(3):], r.Intn(200)))
	}
	for _, w := range []string{full("0"), full("1"), full("0011101")} {
		for _, n := range []int{0, 1, 1000, 32768, api.MaxWord - 1, api.MaxWord} {
			checkTogether(t, w[:n], w[n:])
		}
	}
}

// P8.4: the range of the reversed word has the same width.
func TestReversed(t *testing.T) {
	for _, w := range binaries(44) {
		low, high := rangeOf(t, w)
		from, to := rangeOf(t, word.Reverse(w))
		if high-low != to-from {
			t.Fatalf("P8.4: the ranges of %q, and reversed: %d, %d and %d, %d", short(w), low, high, from, to)
		}
	}
}

// P8.4: known charges: of the empty word, of single letters, of words of one run, and of such that return to 0.
func TestKnownCharges(t *testing.T) {
	for _, c := range []struct {
		w         string
		charges   []int
		low, high int
	}{
		{"", []int{0}, 0, 0}, {"0", []int{0, -1}, -1, 0}, {"1", []int{0, 1}, 0, 1}, {"0000", []int{0, -1, -2, -3, -4}, -4, 0}, {"111", []int{0, 1, 2, 3}, 0, 3}, {"0101", []int{0, -1, 0, -1, 0}, -1, 0},
		{"1010", []int{0, 1, 0, 1, 0}, 0, 1}, {"0110", []int{0, -1, 0, 1, 0}, -1, 1}, {"0011", []int{0, -1, -2, -1, 0}, -2, 0}, {"110000", []int{0, 1, 2, 1, 0, -1, -2}, -2, 2}, {"011110", []int{0, -1, 0, 1, 2, 3, 2}, -1, 3},
	} {
		if list := chargesOf(t, c.w); !slices.Equal(list, c.charges) {
			t.Errorf("P8.4: Charges %q: %v", c.w, list)
		}
		if low, high := rangeOf(t, c.w); low != c.low || high != c.high {
			t.Errorf("P8.4: Range %q: %d, %d", c.w, low, high)
		}
		if d := disparityOf(t, c.w); d != c.charges[len(c.w)] {
			t.Errorf("P8.4: Disparity %q: %d", c.w, d)
		}
	}
}

// P8.4: the charges of words of MaxWord letters.
func TestLongCharges(t *testing.T) {
	for _, c := range []struct {
		w               string
		last, low, high int
	}{
		{full("0"), -api.MaxWord, -api.MaxWord, 0}, {full("1"), api.MaxWord, 0, api.MaxWord}, {full("01"), 0, -1, 0}, {full("10"), 0, 0, 1},
		{strings.Repeat("1", 32768) + strings.Repeat("0", 32768), 0, 0, 32768}, {strings.Repeat("0", 20000) + strings.Repeat("1", 45536), 25536, -20000, 25536},
	} {
		if d := disparityOf(t, c.w); d != c.last {
			t.Errorf("P8.4: Disparity %q: %d", short(c.w), d)
		}
		if low, high := rangeOf(t, c.w); low != c.low || high != c.high {
			t.Errorf("P8.4: Range %q: %d, %d", short(c.w), low, high)
		}
	}
}
