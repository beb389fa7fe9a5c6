package word_test

import (
	"math/rand"
	"strings"
	"testing"

	"groove/samples"
	"groove/word"
)

// border returns the length of the longest proper border, by the definition.
func border(w string) int {
	for n := len(w) - 1; n > 0; n-- {
		if strings.HasPrefix(w, w[len(w)-n:]) {
			return n
		}
	}
	return 0
}

// repeats says whether w repeats itself with a distance.
func repeats(w string, distance int) bool {
	for i := distance; i < len(w); i++ {
		if w[i] != w[i-distance] {
			return false
		}
	}
	return true
}

// root returns the shortest string of which w consists, and the number of its copies, by the definition.
func root(w string) (string, int) {
	for n := 1; n <= len(w); n++ {
		if k := len(w) / n; strings.Repeat(w[:n], k) == w {
			return w[:n], k
		}
	}
	return "", 0
}

// P7.6: borders and periods against the definitions.
func TestBorders(t *testing.T) {
	for _, w := range append(mixed(61), samples.StringsUpTo("01", 12)...) {
		n, period := word.Border(w), word.Period(w)
		if n != border(w) || period != len(w)-n {
			t.Fatalf("P7.6: %q: the border %d, the period %d", w, n, period)
		}
		if w == "" {
			continue
		}
		if n >= len(w) || !strings.HasPrefix(w, w[len(w)-n:]) || !repeats(w, period) {
			t.Fatalf("P7.6: %q: the border %d, the period %d", w, n, period)
		}
		for less := 1; less < period; less++ {
			if repeats(w, less) {
				t.Fatalf("P7.6: %q repeats itself with %d, too", w, less)
			}
		}
	}
}

// P7.6: known borders: none, one that overlaps, and several of them.
func TestKnownBorders(t *testing.T) {
	for _, c := range []struct {
		w              string
		border, period int
	}{
		{"", 0, 0}, {"0", 0, 1}, {"\xff", 0, 1}, {"00", 1, 1}, {"01", 0, 2}, {"0000", 3, 1}, {"01010", 3, 2}, {"010101", 4, 2}, {"0011", 0, 4}, {"0110", 1, 3},
		{"001001", 3, 3}, {"abaab", 2, 3}, {"aabaabaa", 5, 3}, {"abacabacaba", 7, 4}, {"abcab", 2, 3}, {"aabaaab", 3, 4}, {"é", 0, 2}, {"éé", 2, 2}, {"\xc3é\xc3", 1, 3}, {"aA", 0, 2},
	} {
		if n, period := word.Border(c.w), word.Period(c.w); n != c.border || period != c.period {
			t.Errorf("P7.6: %q: the border %d, the period %d", c.w, n, period)
		}
	}
}

// P7.6: long strings.
func TestLongBorders(t *testing.T) {
	zeros := strings.Repeat("0", 300000)
	for _, c := range []struct {
		w      string
		border int
	}{{zeros, 299999}, {zeros + "1", 0}, {zeros + "1" + zeros, 300000}, {zeros + "1" + zeros[1:], 299999}, {strings.Repeat("01", 100000) + "0", 199999}, {strings.Repeat("01", 100000) + "1", 0}} {
		if n := word.Border(c.w); n != c.border || word.Period(c.w) != len(c.w)-n {
			t.Errorf("P7.6: %q: the border %d, the period %d", short(c.w), n, word.Period(c.w))
		}
	}
}

// P7.7: roots against the definition; each is its own root.
func TestRoots(t *testing.T) {
	for _, w := range append(mixed(71), samples.StringsUpTo("01", 12)...) {
		u, k := word.Root(w)
		shortest, copies := root(w)
		if u != shortest || k != copies || strings.Repeat(u, k) != w {
			t.Fatalf("P7.7: the root of %q: %q, %d", w, u, k)
		}
		if w == "" {
			continue
		}
		if v, one := word.Root(u); v != u || one != 1 {
			t.Fatalf("P7.7: the root of the root %q: %q, %d", u, v, one)
		}
	}
}

// P7.7: strings that are their own root, such that are not, and those whose period does not divide their length.
func TestKnownRoots(t *testing.T) {
	for _, c := range []struct {
		w, u string
		k    int
	}{
		{"", "", 0}, {"0", "0", 1}, {"0000", "0", 4}, {"01", "01", 1}, {"0101", "01", 2}, {"01010", "01010", 1}, {"010101", "01", 3}, {"001001", "001", 2}, {"0010010", "0010010", 1},
		{"aabaab", "aab", 2}, {"aabaabaa", "aabaabaa", 1}, {"0110", "0110", 1}, {"éé", "é", 2}, {"\xff\xff\xff", "\xff", 3}, {"\x00", "\x00", 1}, {"aA", "aA", 1}, {"000100010001", "0001", 3},
	} {
		if u, k := word.Root(c.w); u != c.u || k != c.k {
			t.Errorf("P7.7: the root of %q: %q, %d", c.w, u, k)
		}
	}
}

// P7.7: powers of a string have its root, and as many copies more.
func TestPowers(t *testing.T) {
	r := rand.New(rand.NewSource(72))
	for range 2000 {
		w := samples.String(r, "01x"[:1+r.Intn(3)], 1+r.Intn(20))
		u, k := word.Root(w)
		n := 1 + r.Intn(9)
		if v, copies := word.Root(strings.Repeat(w, n)); v != u || copies != k*n {
			t.Fatalf("P7.7: the root of %d copies of %q: %q, %d", n, w, v, copies)
		}
	}
}

// P7.7: strings that are not empty commute exactly if their roots are equal.
func TestCommuting(t *testing.T) {
	list := append(samples.StringsUpTo("01", 6)[1:], "é", "éé", "\xff", "\xff\xff", "0a0a", "0a0a0a", strings.Repeat("011", 4), strings.Repeat("011", 5), fibonacci(7), fibonacci(8))
	for _, v := range list {
		for _, w := range list {
			a, _ := word.Root(v)
			b, _ := word.Root(w)
			if (v+w == w+v) != (a == b) {
				t.Fatalf("P7.7: %q and %q have the roots %q and %q", v, w, a, b)
			}
		}
	}
}

// backward returns the bytes of w in the opposite order, by the definition.
func backward(w string) string {
	s := make([]byte, len(w))
	for i := range len(w) {
		s[len(w)-1-i] = w[i]
	}
	return string(s)
}

// P7.8: reversing, twice, and what it keeps.
func TestReverse(t *testing.T) {
	for _, w := range append(mixed(81), samples.StringsUpTo("01", 11)...) {
		back := word.Reverse(w)
		if back != backward(w) || word.Reverse(back) != w {
			t.Fatalf("P7.8: %q reversed: %q", w, back)
		}
		u, k := word.Root(w)
		v, copies := word.Root(back)
		if word.Border(back) != word.Border(w) || word.Period(back) != word.Period(w) || len(u) != len(v) || k != copies {
			t.Fatalf("P7.8: %q and %q: the borders %d and %d, the roots %q and %q", w, back, word.Border(w), word.Border(back), u, v)
		}
	}
}

// P7.8: known strings: bytes are reversed, not runes.
func TestKnownReverses(t *testing.T) {
	for _, c := range [][2]string{{"", ""}, {"0", "0"}, {"01", "10"}, {"0110", "0110"}, {"001", "100"}, {"é", "\xa9\xc3"}, {"a\xff\x00", "\x00\xffa"}, {"0123456789abcdef", "fedcba9876543210"}} {
		if back := word.Reverse(c[0]); back != c[1] {
			t.Errorf("P7.8: %q reversed: %q", c[0], back)
		}
	}
}
