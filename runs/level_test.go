package runs_test

import (
	"strings"
	"testing"

	"groove/api"
	"groove/runs"
)

// levels returns the levels of a binary word, by the definition: the level behind a letter depends on the number of changes up to it.
func levels(start int, w string) string {
	var x strings.Builder
	for i := range len(w) {
		x.WriteByte(letters[(start+strings.Count(w[:i+1], "1"))%2])
	}
	return x.String()
}

// opposite returns the word with the opposite letters.
func opposite(w string) string {
	return strings.NewReplacer("0", "1", "1", "0").Replace(w)
}

// P8.3: levels against the definition, from both starts.
func TestLevels(t *testing.T) {
	for _, w := range binaries(31) {
		if len(w) > 1000 {
			w = w[:1000]
		}
		for start := range 2 {
			if x := levelsOf(t, start, w); x != levels(start, w) {
				t.Fatalf("P8.3: Levels %d, %q: %q", start, short(w), short(x))
			}
		}
	}
}

// P8.3: Levels and Transitions are inverse to each other, from both starts.
func TestInverse(t *testing.T) {
	for _, w := range binaries(32) {
		for start := range 2 {
			x := levelsOf(t, start, w)
			if back, e := runs.Transitions(start, x); e != api.OK || back != w || len(x) != len(w) {
				t.Fatalf("P8.3: Transitions %d of the levels of %q: %q, %d", start, short(w), short(back), e)
			}
			changes, e := runs.Transitions(start, w)
			if e != api.OK || levelsOf(t, start, changes) != w {
				t.Fatalf("P8.3: the levels of Transitions %d, %q: %q, %d", start, short(w), short(changes), e)
			}
		}
	}
}

// P8.3: the levels from the other start are the opposite ones.
func TestOpposite(t *testing.T) {
	for _, w := range binaries(33) {
		if low, high := levelsOf(t, 0, w), levelsOf(t, 1, w); high != opposite(low) {
			t.Fatalf("P8.3: the levels of %q: %q and %q", short(w), short(low), short(high))
		}
	}
}

// P8.3: the start and the levels behind it have one change for each letter 1.
func TestChanges(t *testing.T) {
	for _, w := range binaries(34) {
		for start := range 2 {
			x := levelsOf(t, start, w)
			changes := strings.Count(w, "1")
			if len(x) == api.MaxWord {
				// There is no room for the start: the first letter says whether there is a change behind it.
				changes -= strings.Count(w[:1], "1")
			} else {
				x = letters[start:start+1] + x
			}
			if l := splitOf(t, x); len(l) != changes+1 {
				t.Fatalf("P8.3: %d, %q has %d changes, and its levels %d runs", start, short(w), changes, len(l))
			}
		}
	}
}

// P8.3: known levels, in both directions: of the empty word, of single letters, and of words of one run.
func TestKnownLevels(t *testing.T) {
	for _, c := range []struct {
		start int
		w, x  string
	}{
		{0, "", ""}, {1, "", ""}, {0, "0", "0"}, {1, "0", "1"}, {0, "1", "1"}, {1, "1", "0"}, {0, "0000", "0000"}, {1, "0000", "1111"}, {0, "1111", "1010"}, {1, "1111", "0101"}, {1, "111", "010"},
		{0, "0101", "0110"}, {1, "0101", "1001"}, {0, "1000", "1111"}, {0, "0001", "0001"}, {1, "0010111", "1100101"}, {0, full("0"), full("0")}, {1, full("0"), full("1")}, {0, full("1"), full("10")}, {1, full("1"), full("01")},
	} {
		if x, e := runs.Levels(c.start, c.w); e != api.OK || x != c.x {
			t.Errorf("P8.3: Levels %d, %q: %q, %d", c.start, short(c.w), short(x), e)
		}
		if w, e := runs.Transitions(c.start, c.x); e != api.OK || w != c.w {
			t.Errorf("P8.3: Transitions %d, %q: %q, %d", c.start, short(c.x), short(w), e)
		}
	}
}
