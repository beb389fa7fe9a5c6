package polynomial_test

import (
	"fmt"
	"math/big"
	"slices"
	"strings"
	"testing"

	"groove/api"
	"groove/polynomial"
)

// P3.7: known texts.
func TestTexts(t *testing.T) {
	for _, c := range []struct {
		p []api.Int
		s string
	}{
		{nil, "0"}, {of(0, 0, 0), "0"}, {[]api.Int{{Neg: true}, {Neg: true, Mag: "\x00"}}, "0"},
		{of(1), "1"}, {of(-1), "-1"}, {of(7), "7"}, {of(-12, 0), "-12"},
		{of(0, 1), "x"}, {of(0, -1), "-x"}, {of(0, 2), "2*x"}, {of(0, -3), "-3*x"}, {of(0, 10), "10*x"}, {of(0, 11), "11*x"},
		{of(0, 0, 1), "x^2"}, {of(0, 0, -1), "-x^2"}, {of(0, 0, 0, 11), "11*x^3"}, {monomial(1, 10), "x^10"}, {monomial(-100, 11), "-100*x^11"},
		{of(1, 1), "x + 1"}, {of(-1, 1), "x - 1"}, {of(1, -1), "-x + 1"}, {of(-1, -1), "-x - 1"}, {of(-1, 0, -1), "-x^2 - 1"},
		{of(1, -2, 0, 1), "x^3 - 2*x + 1"}, {of(-10, 12, -1), "-x^2 + 12*x - 10"}, {of(0, 1, 1, 1), "x^3 + x^2 + x"}, {of(0, -1, -1, -1), "-x^3 - x^2 - x"}, {of(1, 2, 3, 4), "4*x^3 + 3*x^2 + 2*x + 1"},
		{[]api.Int{{Mag: "\x00\x05"}, {Neg: true}, {Neg: true, Mag: "\x01\x00"}, {Mag: "\x00"}}, "-256*x^2 + 5"}, {[]api.Int{{Neg: true, Mag: "\x00\x01"}, {Mag: "\x00\x00\x01"}}, "x - 1"},
		{monomial(1, api.MaxDegree), "x^64"}, {monomial(-1, api.MaxDegree+1), "-x^65"}, {polynomial.Add(monomial(9, 12345), of(0, -1)), "9*x^12345 - x"},
		{[]api.Int{{Mag: "\x01\x00\x00\x00\x00\x00\x00\x00\x00"}, {Neg: true, Mag: "\x01\x00\x00\x00\x00\x00\x00\x00\x00"}}, "-18446744073709551616*x + 18446744073709551616"},
	} {
		if s := polynomial.Print(c.p); s != c.s {
			t.Errorf("P3.7: the text of %v: %q, not %q", c.p, s, c.s)
		}
	}
}

// read returns the polynomial with a text, which must be one.
func read(t *testing.T, s string) []api.Int {
	t.Helper()
	list := zeros(40)
	text := strings.NewReplacer(" - ", " -", " + ", " ").Replace(s)
	last := len(list)
	for _, term := range strings.Split(text, " ") {
		size, power, ok := strings.Cut(term, "x")
		exponent := 0
		if ok {
			exponent = 1
			if rest, ok := strings.CutPrefix(power, "^"); ok {
				fmt.Sscan(rest, &exponent)
			}
			size = strings.TrimSuffix(size, "*")
			if size == "" || size == "-" {
				size += "1"
			}
		}
		c, ok := new(big.Rat).SetString(size)
		if !ok || exponent >= last {
			t.Fatalf("P3.7: %q is no text", s)
		}
		list[exponent], last = c, exponent
	}
	return integers(list)
}

// P3.7: a text can be read back, so that different polynomials have different texts; other lists of the same one have the same text.
func TestReadTexts(t *testing.T) {
	texts := map[string][]api.Int{}
	for _, p := range samples(61, 4000) {
		s, want := polynomial.Print(p), canonical(p)
		if q := read(t, s); !slices.Equal(q, want) {
			t.Fatalf("P3.7: %v has the text %q", value(p), s)
		}
		if c := polynomial.Print(want); c != s {
			t.Fatalf("P3.7: %v has the texts %q and %q", value(p), s, c)
		}
		if q, ok := texts[s]; ok && !slices.Equal(q, want) {
			t.Fatalf("P3.7: %v and %v have the text %q", q, want, s)
		}
		texts[s] = want
	}
}

// P3.7: the texts of all small polynomials are different.
func TestDifferentTexts(t *testing.T) {
	seen := map[string]bool{}
	coefficients := []int64{-12, -2, -1, 0, 1, 2, 11}
	for _, a := range coefficients {
		for _, b := range coefficients {
			for _, c := range coefficients {
				for _, d := range coefficients {
					s := polynomial.Print(of(a, b, c, d))
					if seen[s] {
						t.Fatalf("P3.7: the text %q stands for two polynomials", s)
					}
					seen[s] = true
				}
			}
		}
	}
}
