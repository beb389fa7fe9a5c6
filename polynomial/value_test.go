package polynomial_test

import (
	"math/big"
	"math/rand"
	"slices"
	"strings"
	"testing"

	"groove/api"
	"groove/polynomial"
	"groove/rational"
)

// places returns numbers at which values are computed, canonical ones and others.
func places() []api.Rat {
	return []api.Rat{
		raw(0, 1), raw(1, 1), raw(-1, 1), raw(2, 1), raw(-3, 1), raw(1, 2), raw(-1, 2), raw(2, 3), raw(-7, 4), raw(5, 6), raw(255, 256), raw(-1000, 7), raw(1, 1000),
		{}, raw(5, 0), raw(-1, 0), {Num: of(3)[0], Den: api.Int{Neg: true, Mag: "\x00"}}, raw(0, -4), raw(6, 4), raw(3, -2), raw(-6, -4), raw(2, 2), raw(-12, 6), {Num: api.Int{Mag: "\x00\x06"}, Den: api.Int{Mag: "\x00\x04"}}, {Num: api.Int{Neg: true}, Den: of(3)[0]},
	}
}

// place returns a random number.
func place(r *rand.Rand) api.Rat {
	return raw(int64(r.Intn(401)-200), int64(r.Intn(61)-30))
}

// sum returns the value of p at r, by the definition.
func sum(p []api.Int, r api.Rat) *big.Rat {
	x, power, result := quantity(r), big.NewRat(1, 1), new(big.Rat)
	for _, c := range value(p) {
		result.Add(result, new(big.Rat).Mul(c, power))
		power.Mul(power, x)
	}
	return result
}

// P3.5: values against the definition.
func TestValues(t *testing.T) {
	r := rand.New(rand.NewSource(41))
	for i, p := range samples(42, 1500) {
		list := places()
		if i > 150 {
			list = []api.Rat{place(r), place(r)}
		}
		for _, x := range list {
			if v := at(t, p, x); v != number(sum(p, x)) {
				t.Fatalf("P3.5: %v at %s: %v", value(p), quantity(x), v)
			}
		}
	}
}

// P3.5: values at numbers whose Den has divisors in common with coefficients.
func TestReduced(t *testing.T) {
	for _, den := range []int64{2, 4, 6, 8, 12, 36, -60, 360} {
		for num := int64(-13); num <= 13; num++ {
			for _, p := range [][]api.Int{of(0, 0, 12), of(5, 6, 36), of(1, 2, 4, 8), of(0, 0, 0, 0, 360), of(36, -12, 1), of(7, 0, 72, 216, 1296), of(0, -60), monomial(1<<40, 9), polynomial.Sub(monomial(1<<20, 3), of(1))} {
				x := raw(num, den)
				if v := at(t, p, x); v != number(sum(p, x)) {
					t.Fatalf("P3.5: %s at %s: %v", polynomial.Print(p), quantity(x), v)
				}
			}
		}
	}
}

// P3.5: values of 0 and of constants.
func TestConstantValues(t *testing.T) {
	for _, x := range append(places(), raw(1<<62, 3)) {
		for _, zero := range edges()[:5] {
			if v := at(t, zero, x); v != raw(0, 1) {
				t.Errorf("P3.5: 0 at %s: %v", quantity(x), v)
			}
		}
		if v := at(t, of(-7, 0), x); v != raw(-7, 1) {
			t.Errorf("P3.5: -7 at %s: %v", quantity(x), v)
		}
	}
}

// P3.5: the greatest degree, and long numbers.
func TestLongValues(t *testing.T) {
	r := rand.New(rand.NewSource(43))
	long := api.Rat{Num: api.Int{Neg: true, Mag: "\x01" + strings.Repeat("\x07", 30)}, Den: api.Int{Mag: "\x03" + strings.Repeat("\xfe", 31)}}
	for range 30 {
		p := polynomial.Add(monomial(-7, api.MaxDegree), random(r, api.MaxDegree))
		for _, x := range []api.Rat{place(r), raw(1, 2), raw(-6, 1), {}, long} {
			if v := at(t, p, x); v != number(sum(p, x)) {
				t.Fatalf("P3.5: degree %d at %s", api.MaxDegree, quantity(x))
			}
		}
	}
}

// P3.5: the values of sums, differences and products.
func TestValueLaws(t *testing.T) {
	r := rand.New(rand.NewSource(44))
	pairs(45, 2500, func(a, b []api.Int) {
		x := place(r)
		v, w := at(t, a, x), at(t, b, x)
		if at(t, polynomial.Add(a, b), x) != rational.Add(v, w) || at(t, polynomial.Sub(a, b), x) != rational.Sub(v, w) || at(t, product(t, a, b), x) != rational.Mul(v, w) {
			t.Fatalf("P3.5: values of %v and %v at %s", value(a), value(b), quantity(x))
		}
	})
}

// P3.5: the derivative of sums and products, and of powers of x.
func TestDerivatives(t *testing.T) {
	pairs(46, 2500, func(a, b []api.Int) {
		x, y := polynomial.Derivative(a), polynomial.Derivative(b)
		if !slices.Equal(polynomial.Derivative(polynomial.Add(a, b)), polynomial.Add(x, y)) {
			t.Fatalf("P3.5: the derivative of the sum of %v and %v", value(a), value(b))
		}
		if d := polynomial.Derivative(product(t, a, b)); !slices.Equal(d, polynomial.Add(product(t, x, b), product(t, a, y))) {
			t.Fatalf("P3.5: the derivative of %v times %v: %v", value(a), value(b), value(d))
		}
	})
	for n := 1; n < 300; n++ {
		if d := polynomial.Derivative(monomial(-2, n)); !slices.Equal(d, monomial(-2*int64(n), n-1)) {
			t.Fatalf("P3.5: the derivative of -2*x^%d: %s", n, polynomial.Print(d))
		}
	}
	for _, p := range [][]api.Int{nil, of(0), of(5), of(-1, 0, 0), {{Mag: "\x00\x05"}, {Neg: true}}} {
		if d := polynomial.Derivative(p); len(d) > 0 {
			t.Errorf("P3.5: the derivative of the constant %v: %v", p, d)
		}
	}
}
