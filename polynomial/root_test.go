package polynomial_test

import (
	"math/big"
	"math/rand"
	"slices"
	"testing"

	"groove/api"
	"groove/polynomial"
)

// checkSimple checks the square-free polynomial of p, which is not 0, by the definition.
func checkSimple(t *testing.T, p []api.Int) {
	t.Helper()
	s := simple(t, p)
	if !isPrimitive(s) || !same(s, s) {
		t.Fatalf("P3.6: the square-free polynomial of %v is not primitive: %v", value(p), value(s))
	}
	if g := divisor(s, polynomial.Derivative(s)); !slices.Equal(g, of(1)) {
		t.Fatalf("P3.6: the square-free polynomial of %v has multiple roots: %v", value(p), value(s))
	}
	if !divides(s, p) {
		t.Fatalf("P3.6: the square-free polynomial of %v does not divide it: %v", value(p), value(s))
	}
	// It has all roots of p exactly if p divides a power of it.
	power := []*big.Rat{big.NewRat(1, 1)}
	for range polynomial.Degree(p) {
		power = multiply(power, value(s))
	}
	if _, rest := divideRational(power, value(p)); len(rest) > 0 {
		t.Fatalf("P3.6: the square-free polynomial of %v does not have all roots: %v", value(p), value(s))
	}
	if again := simple(t, s); !slices.Equal(again, s) {
		t.Fatalf("P3.6: %v is not its own square-free polynomial: %v", value(s), value(again))
	}
}

// P3.6: square-free polynomials of all kinds.
func TestSquarefree(t *testing.T) {
	for _, p := range samples(51, 400) {
		if len(value(p)) > 0 {
			checkSimple(t, p)
		}
	}
	pairs(52, 400, func(a, b []api.Int) {
		p := product(t, a, b)
		if len(p) == 0 || len(p) > 14 {
			return
		}
		checkSimple(t, product(t, p, a))
		checkSimple(t, product(t, product(t, p, b), b))
	})
}

// P3.6: 0 has none.
func TestSquarefreeZero(t *testing.T) {
	for _, p := range edges()[:5] {
		if s, e := polynomial.Squarefree(p); e != api.ErrArgument || s != nil {
			t.Errorf("P3.6: the square-free polynomial of %v: %v, %d", p, s, e)
		}
	}
}

// P3.6: known square-free polynomials.
func TestKnownSquarefree(t *testing.T) {
	for _, c := range []struct{ p, want []api.Int }{
		// Constants.
		{of(1), of(1)}, {of(-1), of(1)}, {of(6), of(1)}, {of(-6, 0), of(1)},
		// Simple roots, and negative leading coefficients.
		{of(0, 5), of(0, 1)}, {of(2, -2), of(-1, 1)}, {of(-1, 0, 1), of(-1, 0, 1)}, {of(4, 0, -9), of(-4, 0, 9)}, {of(1, 0, 1), of(1, 0, 1)}, {of(-6, -4), of(3, 2)},
		// Multiple roots.
		{of(1, -2, 1), of(-1, 1)}, {of(0, 0, -4, 4), of(0, -1, 1)}, {of(0, 0, 0, 0, -3), of(0, 1)}, {of(1, 0, 2, 0, 1), of(1, 0, 1)}, {of(-8, 36, -54, 27), of(-2, 3)}, {of(0, 0, 1, 2, 1), of(0, 1, 1)}, {of(4, 0, -4, 0, 1), of(-2, 0, 1)}, {of(-2, 5, -4, 1), of(2, -3, 1)},
	} {
		if s, e := polynomial.Squarefree(c.p); e != api.OK || !slices.Equal(s, c.want) {
			t.Errorf("P3.6: %s: %s, %d", polynomial.Print(c.p), polynomial.Print(s), e)
		}
	}
}

// P3.6: of a product of linear polynomials each one is left once, and the rational roots are the same.
func TestRationalRoots(t *testing.T) {
	r := rand.New(rand.NewSource(53))
	for range 400 {
		p, want := of(int64(1+r.Intn(5))), of(1)
		if r.Intn(2) == 0 {
			// Roots that are not rational.
			p, want = product(t, p, of(-2, 0, 1)), of(-2, 0, 1)
		}
		seen := map[string]bool{}
		for range r.Intn(5) {
			root := raw(int64(r.Intn(13)-6), int64(1+r.Intn(4)))
			factor := primitive([]*big.Rat{new(big.Rat).Neg(quantity(root)), big.NewRat(1, 1)})
			for range 1 + r.Intn(3) {
				p = product(t, p, times(1-2*r.Intn(2), factor))
			}
			if text := quantity(root).RatString(); !seen[text] {
				seen[text] = true
				want = product(t, want, factor)
			}
		}
		s := simple(t, p)
		if !slices.Equal(s, want) {
			t.Fatalf("P3.6: the square-free polynomial of %v: %v, not %v", value(p), value(s), value(want))
		}
		for num := int64(-6); num <= 6; num++ {
			for den := int64(1); den <= 4; den++ {
				x := raw(num, den)
				isRoot := seen[quantity(x).RatString()]
				if (at(t, s, x) == raw(0, 1)) != isRoot || (at(t, p, x) == raw(0, 1)) != isRoot {
					t.Fatalf("P3.6: %v and %v at %s", value(p), value(s), quantity(x))
				}
			}
		}
	}
}

// P3.6: the greatest degree.
func TestLongSquarefree(t *testing.T) {
	power := func(p []api.Int, n int) []api.Int {
		result := of(1)
		for range n {
			result = product(t, result, p)
		}
		return result
	}
	const half = api.MaxDegree / 2
	for _, c := range []struct{ p, want []api.Int }{
		{monomial(-4, api.MaxDegree), of(0, 1)},
		{polynomial.Sub(monomial(1, api.MaxDegree), of(1)), polynomial.Sub(monomial(1, api.MaxDegree), of(1))},
		{polynomial.Sub(of(0, 6), monomial(6, api.MaxDegree)), polynomial.Sub(monomial(1, api.MaxDegree), of(0, 1))},
		{power(of(2, -3), api.MaxDegree), of(-2, 3)},
		{power(of(1, 0, 1), half), of(1, 0, 1)},
		{power(of(-1, -1, 2), half), of(-1, -1, 2)},
		{product(t, power(of(1, 1), half-1), product(t, power(of(-5, 2), half), of(1, 7))), product(t, of(1, 1), product(t, of(-5, 2), of(1, 7)))},
		{power(polynomial.Add(monomial(2, half), of(3, -1)), 2), polynomial.Add(monomial(2, half), of(3, -1))},
	} {
		if s := simple(t, c.p); !slices.Equal(s, c.want) {
			t.Errorf("P3.6: %s: %s", polynomial.Print(c.p), polynomial.Print(s))
		}
	}
}
