package rational_test

import (
	"math/big"
	"math/rand"
	"testing"

	"groove/api"
	"groove/integer"
	"groove/rational"
)

// firstAtLeast returns the least number n / d that is at least a.
func firstAtLeast(a *big.Rat, d int64) *big.Rat {
	scaled := new(big.Rat).Mul(a, new(big.Rat).SetInt64(d))
	n := floor(scaled.Neg(scaled))
	return new(big.Rat).SetFrac(n.Neg(n), big.NewInt(d))
}

// search returns the simplest number from a to b, by its definition: the one nearest to 0 of those with the least denominator.
func search(a, b *big.Rat) *big.Rat {
	for d := int64(1); ; d++ {
		low := firstAtLeast(a, d)
		if low.Cmp(b) > 0 {
			continue
		}
		if low.Sign() >= 0 {
			return low
		}
		high := firstAtLeast(new(big.Rat).Neg(b), d)
		if high.Neg(high).Sign() <= 0 {
			return high
		}
		return new(big.Rat)
	}
}

// simplest returns the simplest number from a to b, where a is not greater.
func simplest(t *testing.T, a, b api.Rat) api.Rat {
	t.Helper()
	s, e := rational.Simplest(a, b)
	if e != api.OK {
		t.Fatalf("P2.8: the simplest number from %s to %s: %d", value(a), value(b), e)
	}
	return s
}

// P2.8: bounds of all signs, equal ones and ones in the wrong order, against the definition.
func TestSimplest(t *testing.T) {
	list := loose()
	for n := int64(-30); n <= 30; n++ {
		for d := int64(1); d <= 8; d++ {
			list = append(list, raw(n, d))
		}
	}
	for _, a := range list {
		for _, b := range list {
			if value(a).Cmp(value(b)) > 0 {
				if s, e := rational.Simplest(a, b); e != api.ErrOrder || s != (api.Rat{}) {
					t.Fatalf("P2.8: bounds in the wrong order, %s and %s: %#v %d", value(a), value(b), s, e)
				}
				continue
			}
			if s := simplest(t, a, b); !same(s, search(value(a), value(b))) {
				t.Fatalf("P2.8: from %s to %s: %#v", value(a), value(b), s)
			}
		}
	}
}

// P2.8: the only number between equal bounds, also of many terms.
func TestEqualBounds(t *testing.T) {
	for _, a := range samples(15, 1000) {
		if s := simplest(t, a, a); !same(s, value(a)) {
			t.Fatalf("P2.8: from %s to itself: %#v", value(a), s)
		}
	}
	m, n := integer.Of(1), integer.Of(1)
	for range 600 {
		m, n = n, integer.Add(m, n)
	}
	golden, below := api.Rat{Num: n, Den: m}, api.Rat{Num: m, Den: integer.Sub(n, m)}
	if simplest(t, golden, golden) != golden || simplest(t, rational.Neg(golden), rational.Neg(golden)) != rational.Neg(golden) {
		t.Errorf("P2.8: the quotient of two successive Fibonacci numbers")
	}
	// Between two successive ones the simpler one of them is the simplest number.
	low, high := golden, below
	if rational.Compare(low, high) > 0 {
		low, high = high, low
	}
	if s := simplest(t, low, high); s != below {
		t.Errorf("P2.8: between two successive quotients: %s", rational.Print(s))
	}
}

// P2.8: narrow bounds around random numbers: no number with a smaller denominator lies between them.
func TestNarrowBounds(t *testing.T) {
	r := rand.New(rand.NewSource(16))
	for range 4000 {
		middle := raw(r.Int63n(4000)-2000, 1+r.Int63n(300))
		a := rational.Sub(middle, raw(r.Int63n(2), 1+r.Int63n(100000)))
		b := plus(middle, raw(r.Int63n(2), 1+r.Int63n(100000)))
		s := simplest(t, a, b)
		if !same(s, search(value(a), value(b))) {
			t.Fatalf("P2.8: from %s to %s: %#v", value(a), value(b), s)
		}
		if rational.Compare(a, s) > 0 || rational.Compare(s, b) > 0 {
			t.Fatalf("P2.8: from %s to %s: %s is not between them", value(a), value(b), value(s))
		}
		if mirrored := simplest(t, rational.Neg(b), rational.Neg(a)); mirrored != rational.Neg(s) {
			t.Fatalf("P2.8: from %s to %s: the opposite bounds lead to %s", value(a), value(b), value(mirrored))
		}
	}
}

// hasInteger says whether an integer lies from a to b.
func hasInteger(a, b api.Rat) bool {
	return new(big.Rat).SetInt(floor(value(b))).Cmp(value(a)) >= 0
}

// P2.8: shifting both bounds by an integer shifts the simplest number, if no integer lies between them.
func TestShiftedBounds(t *testing.T) {
	r := rand.New(rand.NewSource(17))
	shifted := 0
	check := func(a, b api.Rat) {
		if rational.Compare(a, b) > 0 {
			a, b = b, a
		}
		if hasInteger(a, b) {
			return
		}
		s := simplest(t, a, b)
		for _, shift := range []api.Rat{raw(1, 1), raw(-1, 1), raw(-3, 1), raw(100, 1), canonical(new(big.Rat).SetInt(size(digits(r, 20))))} {
			shifted++
			if moved := simplest(t, plus(a, shift), plus(b, shift)); moved != plus(s, shift) {
				t.Fatalf("P2.8: from %s to %s, shifted by %s: %s", value(a), value(b), value(shift), value(moved))
			}
		}
	}
	pairs(18, 2000, check)
	for _, a := range samples(19, 500) {
		check(a, plus(a, raw(1, 1+r.Int63n(1000))))
	}
	if shifted < 1000 {
		t.Errorf("P2.8: only %d shifted bounds", shifted)
	}
}
