package rational_test

import (
	"math"
	"math/big"
	"testing"

	"groove/api"
	"groove/integer"
	"groove/rational"
)

// P2.1: the examples of the chapter.
func TestExamples(t *testing.T) {
	r, e := rational.Ratio(6, -4)
	if e != api.OK || r != raw(-3, 2) || rational.Floor(r) != integer.Of(-2) {
		t.Errorf("P2.1: 6 / -4: %#v %d, the floor %#v", r, e, rational.Floor(r))
	}
	for _, c := range []struct{ a, b, want api.Rat }{
		{raw(1, 3), raw(2, 5), raw(1, 3)}, {raw(3, 10), raw(2, 5), raw(1, 3)}, {raw(-1, 2), raw(5, 1), raw(0, 1)},
	} {
		if s, e := rational.Simplest(c.a, c.b); e != api.OK || s != c.want {
			t.Errorf("P2.1: the simplest number from %s to %s: %#v %d", value(c.a), value(c.b), s, e)
		}
	}
	if r, e := rational.Parse("-3/2"); e != api.OK || r != raw(-3, 2) {
		t.Errorf("P2.1: Parse -3/2: %#v %d", r, e)
	}
	for _, s := range []string{"6/4", "3/1", "0/1"} {
		if r, e := rational.Parse(s); e != api.ErrSyntax || r != (api.Rat{}) {
			t.Errorf("P2.1: Parse %s: %#v %d", s, r, e)
		}
	}
}

// P2.1: functions of one number against the definitions.
func TestOne(t *testing.T) {
	for _, a := range samples(1, 3000) {
		n := value(a)
		want := api.OK
		if a != canonical(n) {
			want = api.ErrArgument
		}
		if e := rational.Check(a); e != want {
			t.Fatalf("P2.1: Check %#v: %d", a, e)
		}
		if b := rational.Neg(a); !same(b, new(big.Rat).Neg(n)) {
			t.Fatalf("P2.1: Neg %#v: %#v", a, b)
		}
		if f := rational.Floor(a); f != whole(floor(n)) {
			t.Fatalf("P2.1: Floor %#v: %#v", a, f)
		}
		if s := rational.Print(a); s != n.RatString() {
			t.Fatalf("P2.1: Print %#v: %s", a, s)
		}
		if b := rational.Of(a.Num); !same(b, new(big.Rat).SetInt(size(a.Num))) {
			t.Fatalf("P2.1: Of %#v: %#v", a.Num, b)
		}
		checkNew(t, a.Num, a.Den)
	}
}

// checkNew compares n / d with the definition.
func checkNew(t *testing.T, n, d api.Int) {
	t.Helper()
	r, e := rational.New(n, d)
	if size(d).Sign() == 0 {
		if e != api.ErrDivide || r != (api.Rat{}) {
			t.Fatalf("P2.1: New %#v and 0: %#v %d", n, r, e)
		}
		return
	}
	if e != api.OK || !same(r, value(api.Rat{Num: n, Den: d})) {
		t.Fatalf("P2.1: New %#v and %#v: %#v %d", n, d, r, e)
	}
}

// P2.1: functions of two numbers against the definitions.
func TestTwo(t *testing.T) {
	pairs(2, 15000, func(a, b api.Rat) {
		m, n := value(a), value(b)
		if s := rational.Add(a, b); !same(s, new(big.Rat).Add(m, n)) {
			t.Fatalf("P2.1: %s + %s: %#v", m, n, s)
		}
		if d := rational.Sub(a, b); !same(d, new(big.Rat).Sub(m, n)) {
			t.Fatalf("P2.1: %s - %s: %#v", m, n, d)
		}
		if p := rational.Mul(a, b); !same(p, new(big.Rat).Mul(m, n)) {
			t.Fatalf("P2.1: %s * %s: %#v", m, n, p)
		}
		if c := rational.Compare(a, b); c != m.Cmp(n) {
			t.Fatalf("P2.1: Compare %s and %s: %d", m, n, c)
		}
		q, e := rational.Quo(a, b)
		if n.Sign() == 0 {
			if e != api.ErrDivide || q != (api.Rat{}) {
				t.Fatalf("P2.1: %s by 0 (%#v): %#v %d", m, b, q, e)
			}
			return
		}
		if e != api.OK || !same(q, new(big.Rat).Quo(m, n)) {
			t.Fatalf("P2.1: %s by %s: %#v %d", m, n, q, e)
		}
	})
}

// P2.1: quotients of ints.
func TestRatio(t *testing.T) {
	list := []int{0, 1, -1, 2, -2, 3, -3, 4, 6, -6, 12, -12, 255, 256, -256, math.MaxInt, math.MinInt, math.MinInt + 1, 1 << 32, -1 << 32}
	for _, n := range list {
		for _, d := range list {
			r, e := rational.Ratio(n, d)
			if d == 0 {
				if e != api.ErrDivide || r != (api.Rat{}) {
					t.Errorf("P2.1: Ratio %d and 0: %#v %d", n, r, e)
				}
				continue
			}
			if e != api.OK || !same(r, big.NewRat(int64(n), int64(d))) {
				t.Errorf("P2.1: Ratio %d and %d: %#v %d", n, d, r, e)
			}
		}
	}
}

// P2.1: a number whose Den has the value 0 is 0.
func TestNoDenominator(t *testing.T) {
	zero, half := raw(0, 1), raw(1, 2)
	for _, den := range []api.Int{{}, {Neg: true}, {Mag: "\x00"}, {Neg: true, Mag: "\x00\x00"}} {
		for _, num := range []api.Int{{}, integer.Of(1), integer.Of(-5), {Neg: true, Mag: "\x00\x07"}} {
			a := api.Rat{Num: num, Den: den}
			if rational.Add(a, half) != half || rational.Sub(a, half) != raw(-1, 2) || rational.Mul(a, half) != zero || rational.Neg(a) != zero || quotient(t, a, half) != zero {
				t.Errorf("P2.1: computing with %#v", a)
			}
			if rational.Compare(a, zero) != 0 || rational.Compare(a, half) != -1 || rational.Floor(a) != (api.Int{}) || rational.Print(a) != "0" || rational.Check(a) != api.ErrArgument {
				t.Errorf("P2.1: the value of %#v", a)
			}
			if q, e := rational.Quo(half, a); e != api.ErrDivide || q != (api.Rat{}) {
				t.Errorf("P2.1: 1/2 by %#v: %#v %d", a, q, e)
			}
			if r, e := rational.New(num, den); e != api.ErrDivide || r != (api.Rat{}) {
				t.Errorf("P2.1: New %#v and %#v: %#v %d", num, den, r, e)
			}
		}
	}
}

// P2.5: which numbers are canonical.
func TestCheck(t *testing.T) {
	for _, r := range []api.Rat{raw(0, 1), raw(1, 1), raw(-1, 1), raw(1, 2), raw(-3, 2), raw(255, 256), raw(-256, 255), number(math.MinInt64, 3)} {
		if e := rational.Check(r); e != api.OK {
			t.Errorf("P2.5: Check %#v: %d", r, e)
		}
	}
	for _, r := range loose() {
		if e := rational.Check(r); e != api.ErrArgument {
			t.Errorf("P2.5: Check %#v: %d", r, e)
		}
	}
}

// checkCanonical says whether a result is not canonical, by the definition and by Check.
func checkCanonical(t *testing.T, r api.Rat) {
	t.Helper()
	divisor := new(big.Int).GCD(nil, nil, new(big.Int).Abs(size(r.Num)), new(big.Int).Abs(size(r.Den)))
	if integer.Check(r.Num) != api.OK || integer.Check(r.Den) != api.OK || size(r.Den).Sign() <= 0 || divisor.Cmp(big.NewInt(1)) != 0 || rational.Check(r) != api.OK {
		t.Fatalf("P2.5: %#v is not canonical", r)
	}
}

// P2.5: all results are canonical.
func TestCanonical(t *testing.T) {
	list := samples(3, 60)
	for _, a := range list {
		for n := range 4 {
			p, _ := rational.Power(a, n)
			checkCanonical(t, p)
		}
		parsed, _ := rational.Parse(rational.Print(a))
		checkCanonical(t, parsed)
		checkCanonical(t, rational.Neg(a))
		checkCanonical(t, rational.Of(a.Num))
		if integer.Check(rational.Floor(a)) != api.OK {
			t.Fatalf("P2.5: the floor of %#v is not canonical", a)
		}
		for _, b := range list {
			for _, r := range []api.Rat{plus(a, b), rational.Sub(a, b), times(a, b)} {
				checkCanonical(t, r)
			}
			if q, e := rational.Quo(a, b); e == api.OK {
				checkCanonical(t, q)
			}
			if s, e := rational.Simplest(a, b); e == api.OK {
				checkCanonical(t, s)
			}
		}
	}
}

// results returns what all functions but Check return for two numbers.
func results(a, b api.Rat) []any {
	quo, e := rational.Quo(a, b)
	pow, f := rational.Power(a, 3)
	least, g := rational.Simplest(a, b)
	return []any{plus(a, b), rational.Sub(a, b), times(a, b), quo, e, rational.Neg(a), rational.Compare(a, b), rational.Floor(a), pow, f, least, g, rational.Print(a)}
}

// P2.5: equal values have equal results.
func TestEqualValues(t *testing.T) {
	pairs(4, 3000, func(a, b api.Rat) {
		want := results(canonical(value(a)), canonical(value(b)))
		for i, r := range results(a, b) {
			if r != want[i] {
				t.Fatalf("P2.5: result %d for %#v and %#v: %v, not %v", i, a, b, r, want[i])
			}
		}
	})
}
