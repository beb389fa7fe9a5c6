package power_test

import (
	"math"
	"math/rand"
	"strings"
	"testing"

	"groove/api"
	"groove/integer"
	"groove/power"
	"groove/samples"
	"groove/word"
)

// P16.3: blocks and labels are inverse to each other, and in the same order, for all numbers of letters with few words.
func TestBlocks(t *testing.T) {
	for q := 1; q <= api.MaxLetter; q++ {
		for n := 0; n <= api.MaxBlock && raised(q, n, 1<<16) <= 1<<16; n++ {
			few := raised(q, n, api.MaxLabel) <= api.MaxLabel
			for label, w := range samples.Strings(letters[:q], n) {
				if got := blockOf(t, q, n, label); got != w {
					t.Fatalf("P16.3: Block %d, %d, %d: %q, not %q", q, n, label, got, w)
				}
				if !few {
					continue
				}
				if got := labelOf(t, q, w); got != label {
					t.Fatalf("P16.3: Label %d, %q: %d, not %d", q, w, got, label)
				}
			}
			checkBlockError(t, q, n, raised(q, n, math.MaxInt>>8), api.ErrRange)
		}
	}
}

// P16.3: the numbers of the blocks of a power are those of its labels: a path with a block leads where the edge with its number leads.
func TestBlocksOfPowers(t *testing.T) {
	for _, g := range []api.Graph{samples.Golden(), samples.Even(), samples.Stairs(), samples.Of(3, 2, 0, 2, 1, 0, 1, 0, 1, 0, 1, 1, 2, 0)} {
		for n := 1; n <= 5; n++ {
			for _, edge := range powerOf(t, g, n).Edges {
				at := []int{edge.From}
				for _, letter := range blockOf(t, g.Labels, n, edge.Label) {
					at = samples.Step(g, at, strings.IndexRune(letters, letter))
				}
				if len(at) != 1 || at[0] != edge.To {
					t.Errorf("P16.3: %v: the block of the edge %v leads to %v", g, edge, at)
				}
			}
		}
	}
}

// P16.3: numbers of blocks up to the greatest ones are ranks of words, and there are no greater ones.
func TestLargeBlocks(t *testing.T) {
	r := rand.New(rand.NewSource(11))
	for q := 1; q <= api.MaxLetter; q++ {
		for n := range api.MaxBlock + 1 {
			number := 1
			for range n {
				number *= q
			}
			// Of these powers only 16 to the power 16 is greater than any int; it has become 0.
			last := number - 1
			if number == 0 {
				last = math.MaxInt
			} else {
				checkBlockError(t, q, n, number, api.ErrRange)
			}
			for _, label := range []int{0, last, last / 2, last - last/3, r.Intn(last/2 + 1), r.Intn(last/5 + 1)} {
				w := blockOf(t, q, n, label)
				rank, e := word.Rank(q, w)
				if e != api.OK || len(w) != n || integer.Print(rank) != integer.Print(integer.Of(label)) {
					t.Fatalf("P16.3: Block %d, %d, %d: %q", q, n, label, w)
				}
			}
		}
	}
}

// P16.1: known blocks and labels, the chapter's example among them.
func TestKnownBlocks(t *testing.T) {
	for _, c := range []struct {
		q, n, label int
		w           string
	}{
		{2, 3, 6, "110"}, {2, 0, 0, ""}, {1, 0, 0, ""}, {16, 0, 0, ""}, {1, 1, 0, "0"}, {1, 16, 0, "0000000000000000"}, {2, 8, 255, "11111111"}, {2, 8, 1, "00000001"}, {3, 5, 242, "22222"}, {4, 4, 27, "0123"}, {6, 3, 215, "555"}, {15, 2, 224, "ee"}, {16, 2, 16, "10"}, {16, 1, 10, "a"}, {16, 2, 175, "af"},
	} {
		if w := blockOf(t, c.q, c.n, c.label); w != c.w {
			t.Errorf("P16.3: Block %d, %d, %d: %q, not %q", c.q, c.n, c.label, w, c.w)
		}
		if label := labelOf(t, c.q, c.w); label != c.label {
			t.Errorf("P16.3: Label %d, %q: %d, not %d", c.q, c.w, label, c.label)
		}
	}
	if w := blockOf(t, 2, 16, 1<<16-2); w != "1111111111111110" {
		t.Errorf("P16.3: Block 2, 16, 65534: %q", w)
	}
	if w := blockOf(t, 16, 16, math.MaxInt64); w != "7fffffffffffffff" {
		t.Errorf("P16.3: Block 16, 16, %d: %q", math.MaxInt64, w)
	}
	if w := blockOf(t, 16, 15, 1<<60-1); w != "fffffffffffffff" {
		t.Errorf("P16.3: Block 16, 15, %d: %q", 1<<60-1, w)
	}
}

// P16.1: no alphabet comes first, then numbers of letters and numbers of words that there are not, each of them alone and both.
func TestBlockErrors(t *testing.T) {
	for _, q := range append(samples.NoNumbers(), 0, 17, 18, 256) {
		for _, n := range append(samples.NoNumbers(), 0, 1, 16, 17) {
			for _, label := range []int{0, 1, -1, math.MinInt, math.MaxInt} {
				checkBlockError(t, q, n, label, api.ErrAlphabet)
			}
		}
		for _, w := range []string{"", "0", "x", strings.Repeat("0", 17), strings.Repeat("0", api.MaxWord+1)} {
			checkLabelError(t, q, w, api.ErrAlphabet)
		}
	}
	for q := 1; q <= api.MaxLetter; q++ {
		for _, n := range append(samples.NoNumbers(), 17, 18, 64) {
			for _, label := range append(samples.NoNumbers(), 0, 1) {
				checkBlockError(t, q, n, label, api.ErrRange)
			}
		}
		for n := range 17 {
			for _, label := range []int{-1, -2, -256, math.MinInt, math.MinInt + 1} {
				checkBlockError(t, q, n, label, api.ErrRange)
			}
			if n < 15 {
				checkBlockError(t, q, n, math.MaxInt, api.ErrRange)
			}
		}
		checkBlockError(t, q, 0, 1, api.ErrRange)
		checkBlockError(t, q, 1, q, api.ErrRange)
	}
	checkBlockError(t, 1, 16, 1, api.ErrRange)
	checkBlockError(t, 16, 15, 1<<60, api.ErrRange)
}

// P16.1: words that are none come first, then those that are too long, and then those of which there are too many.
func TestLabelErrors(t *testing.T) {
	zeros := strings.Repeat("0", api.MaxWord+1)
	for q := 1; q <= api.MaxLetter; q++ {
		few := api.MaxBlock
		for raised(q, few, api.MaxLabel) > api.MaxLabel {
			few--
		}
		for n := range api.MaxBlock + 1 {
			if n > few {
				checkLabelError(t, q, zeros[:n], api.ErrLimit)
				checkLabelError(t, q, strings.Repeat(letters[q-1:q], n), api.ErrLimit)
			} else if label := labelOf(t, q, zeros[:n]); label != 0 {
				t.Errorf("P16.3: Label %d, %q: %d", q, zeros[:n], label)
			}
		}
		for _, n := range []int{17, 18, 100, api.MaxWord} {
			checkLabelError(t, q, zeros[:n], api.ErrRange)
			checkLabelError(t, q, zeros[:n-1]+"g", api.ErrWord)
		}
		checkLabelError(t, q, zeros, api.ErrLimit)
		checkLabelError(t, q, "x"+zeros, api.ErrLimit)
		for _, w := range []string{"g", "G", " ", "0 ", "F", "\x00", "\xff", "é", "-1", "0000000g", "x" + zeros[:16]} {
			checkLabelError(t, q, w, api.ErrWord)
		}
		if q < api.MaxLetter {
			checkLabelError(t, q, letters[q:q+1], api.ErrWord)
			checkLabelError(t, q, zeros[:20]+letters[q:q+1], api.ErrWord)
		}
	}
}

// checkBlockError checks that Block returns an error, and no word.
func checkBlockError(t *testing.T, q, n, label int, want api.Errno) {
	t.Helper()
	if w, e := power.Block(q, n, label); w != "" || e != want {
		t.Errorf("P16.1: Block %d, %d, %d: %q, %d, not %d", q, n, label, w, e, want)
	}
}

// checkLabelError checks that Label returns an error, and 0.
func checkLabelError(t *testing.T, q int, w string, want api.Errno) {
	t.Helper()
	if label, e := power.Label(q, w); label != 0 || e != want {
		t.Errorf("P16.1: Label %d, %.40q: %d, %d, not %d", q, w, label, e, want)
	}
}
