package word_test

import (
	"math/big"
	"math/rand"
	"strings"
	"testing"

	"groove/api"
	"groove/samples"
	"groove/word"
)

// rank returns the rank of a word: the integer with these digits to the base q.
func rank(t *testing.T, q int, w string) *big.Int {
	t.Helper()
	if q == 1 || w == "" {
		return new(big.Int)
	}
	n, ok := new(big.Int).SetString(w, q)
	if !ok {
		t.Fatalf("P7.3: %q over %d letters is no number", short(w), q)
	}
	return n
}

// checkRanks checks that a word and its rank lead to each other.
func checkRanks(t *testing.T, q int, w string) {
	t.Helper()
	want := whole(rank(t, q, w))
	if a := rankOf(t, q, w); a != want {
		t.Fatalf("P7.3: Rank of %q, %d letters over %d: %#v", short(w), len(w), q, a)
	}
	if back, e := word.Unrank(q, len(w), want); e != api.OK || back != w {
		t.Fatalf("P7.3: Unrank of %q, %d letters over %d: %q, %d", short(w), len(w), q, short(back), e)
	}
}

// P7.3: the rank is the number of lesser words of the same length.
func TestCounted(t *testing.T) {
	for _, c := range [][2]int{{1, 5}, {2, 6}, {3, 4}, {5, 2}, {16, 2}} {
		list := samples.Strings(letters[:c[0]], c[1])
		for _, w := range list {
			number := 0
			for _, u := range list {
				if u < w {
					number++
				}
			}
			if a := rankOf(t, c[0], w); a != of(number) {
				t.Fatalf("P7.3: Rank of %q: %#v", w, a)
			}
		}
	}
}

// P7.3: words of all lengths, with letters 0 at both ends, too.
func TestRanks(t *testing.T) {
	r := rand.New(rand.NewSource(31))
	for q := 1; q <= api.MaxLetter; q++ {
		for n := range 80 {
			w := samples.String(r, letters[:q], n)
			zeros, last := strings.Repeat("0", n), strings.Repeat(letters[q-1:q], n)
			for _, u := range []string{w, zeros, last, zeros + w, w + zeros, w + last, last + w, zeros + last, last + zeros} {
				checkRanks(t, q, u)
			}
		}
	}
	for i := range 500 {
		q := 1 + i%api.MaxLetter
		checkRanks(t, q, samples.String(r, letters[:q], r.Intn(2000)))
	}
}

// P7.3: words of MaxWord letters, the first one and the last one among them.
func TestLongRanks(t *testing.T) {
	r := rand.New(rand.NewSource(32))
	for q := 1; q <= api.MaxLetter; q++ {
		checkRanks(t, q, samples.String(r, letters[:q], api.MaxWord))
		checkRanks(t, q, strings.Repeat("0", api.MaxWord))
		checkRanks(t, q, strings.Repeat(letters[q-1:q], api.MaxWord))
		checkRanks(t, q, samples.String(r, letters[:q], api.MaxWord-1))
	}
}

// P7.3: the ranks 0, the greatest one and the next number, and ranks that no word has.
func TestEdgesOfRanks(t *testing.T) {
	for q := 1; q <= api.MaxLetter; q++ {
		for _, n := range []int{0, 1, 2, 3, 7, 8, 14, 15, 16, 17, 29, 30, 31, 32, 33, 61, 62, 63, 64, 65, 127, 128, 500, 4096, 4097, api.MaxWord} {
			number := power(q, n)
			greatest := new(big.Int).Sub(number, big.NewInt(1))
			if w, e := word.Unrank(q, n, api.Int{}); e != api.OK || w != strings.Repeat("0", n) {
				t.Errorf("P7.3: Unrank %d, %d, 0: %q, %d", q, n, short(w), e)
			}
			if w, e := word.Unrank(q, n, whole(greatest)); e != api.OK || w != strings.Repeat(letters[q-1:q], n) {
				t.Errorf("P7.3: Unrank %d, %d of the greatest rank: %q, %d", q, n, short(w), e)
			}
			double := new(big.Int).Lsh(number, 1)
			for _, a := range []api.Int{whole(number), whole(new(big.Int).Add(number, big.NewInt(1))), whole(double), whole(new(big.Int).Lsh(number, 64)), of(-1), whole(new(big.Int).Neg(number)), whole(new(big.Int).Neg(double))} {
				if w, e := word.Unrank(q, n, a); e != api.ErrRange || w != "" {
					t.Errorf("P7.3: Unrank %d, %d of %d bytes: %q, %d", q, n, len(a.Mag), short(w), e)
				}
			}
		}
	}
}

// P7.3: ranks that are not canonical, where their values are ranks and where they are not.
func TestLooseRanks(t *testing.T) {
	for q := 1; q <= api.MaxLetter; q++ {
		for _, n := range []int{0, 1, 3, 40, api.MaxWord} {
			for _, a := range append(loose(), api.Int{Mag: "\x00" + strings.Repeat("\xff", 40000)}, api.Int{Neg: true, Mag: "\x00" + strings.Repeat("\xff", 40000)}) {
				if w, e := word.Unrank(q, n, a); e != api.ErrArgument || w != "" {
					t.Errorf("P7.3: Unrank %d, %d of %d bytes: %q, %d", q, n, len(a.Mag), short(w), e)
				}
			}
		}
	}
}

// P7.3: all ranks of a length lead to different words, in their order.
func TestUnrankAll(t *testing.T) {
	for _, c := range [][2]int{{1, 9}, {2, 10}, {3, 6}, {7, 3}, {10, 3}, {16, 2}} {
		for i, w := range samples.Strings(letters[:c[0]], c[1]) {
			if u, e := word.Unrank(c[0], c[1], of(i)); e != api.OK || u != w {
				t.Fatalf("P7.3: Unrank %v, %d: %q, %d", c, i, u, e)
			}
		}
	}
}
