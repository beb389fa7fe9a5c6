package polynomial_test

import (
	"math/rand"
	"slices"
	"testing"

	"groove/api"
	"groove/polynomial"
)

// divides says whether g, which is not 0, divides p with rational coefficients.
func divides(g, p []api.Int) bool {
	_, rest := divideRational(value(p), value(g))
	return len(rest) == 0
}

// divisor returns the primitive greatest common divisor, by Euclid's algorithm with rational coefficients.
func divisor(a, b []api.Int) []api.Int {
	m, n := value(a), value(b)
	for len(n) > 0 {
		_, rest := divideRational(m, n)
		m, n = n, rest
	}
	return primitive(m)
}

// P3.4: common divisors against Euclid's algorithm.
func TestDivisors(t *testing.T) {
	r := rand.New(rand.NewSource(31))
	check := func(a, b []api.Int) {
		if g := common(t, a, b); !slices.Equal(g, divisor(a, b)) {
			t.Fatalf("P3.4: the common divisor of %v and %v: %v", value(a), value(b), value(g))
		}
	}
	pairs(32, 2500, func(a, b []api.Int) {
		check(a, b)
		f := random(r, 5)
		check(product(t, a, f), product(t, b, f))
	})
}

// P3.4: it divides both polynomials and is primitive; what is left of them has no common divisor.
func TestDivides(t *testing.T) {
	r := rand.New(rand.NewSource(33))
	pairs(34, 1500, func(a, b []api.Int) {
		f := random(r, 4)
		x, y := product(t, a, f), product(t, b, f)
		g := common(t, x, y)
		if len(value(x)) == 0 && len(value(y)) == 0 {
			if len(g) > 0 {
				t.Fatalf("P3.4: the common divisor of 0 and 0: %v", g)
			}
			return
		}
		if !isPrimitive(g) || !divides(g, x) || !divides(g, y) {
			t.Fatalf("P3.4: the common divisor of %v and %v: %v", value(x), value(y), value(g))
		}
		p, _, _ := polynomial.Divide(x, g)
		q, _, _ := polynomial.Divide(y, g)
		if rest := common(t, p, q); !slices.Equal(rest, of(1)) {
			t.Fatalf("P3.4: %v and %v have more than %v in common: %v", value(x), value(y), value(g), value(rest))
		}
	})
}

// P3.4: a common factor goes into it; the order, signs and constant factors do not matter.
func TestCommonFactor(t *testing.T) {
	r := rand.New(rand.NewSource(35))
	pairs(36, 1500, func(a, b []api.Int) {
		g := common(t, a, b)
		if !slices.Equal(g, common(t, b, a)) || !slices.Equal(g, common(t, times(-6, a), times(10, b))) {
			t.Fatalf("P3.4: common divisors of %v and %v: %v", value(a), value(b), value(g))
		}
		f := random(r, 5)
		if len(value(f)) == 0 {
			return
		}
		want := primitive(value(product(t, g, f)))
		if h := common(t, product(t, a, f), product(t, b, f)); !slices.Equal(h, want) {
			t.Fatalf("P3.4: the common divisor of %v and %v, both times %v: %v", value(a), value(b), value(f), value(h))
		}
	})
}

// P3.4: known common divisors.
func TestKnownDivisors(t *testing.T) {
	for _, c := range []struct{ a, b, want []api.Int }{
		{of(-2, 0, 2), of(-3, 3), of(-1, 1)},
		// 0 and constants.
		{nil, nil, nil}, {of(0), of(0, 0), nil}, {nil, of(4, -2), of(-2, 1)}, {of(4, -2), nil, of(-2, 1)}, {nil, of(-6), of(1)}, {of(6), of(9), of(1)}, {of(6), of(0, 9), of(1)}, {of(-1), nil, of(1)},
		// Primitive polynomials whose leading coefficient is not 1.
		{of(3, 6), of(-1, 0, 4), of(1, 2)}, {of(2, -5, -3), of(-4, 12), of(-1, 3)}, {of(2, -5, 3), of(-4, 6), of(-2, 3)},
		// Negative leading coefficients.
		{of(1, -1), of(-1, 1), of(-1, 1)}, {of(0, -2), of(0, 0, -3), of(0, 1)}, {of(1, 0, -1), of(1, 2, 1), of(1, 1)},
		// Multiple factors.
		{of(1, 2, 1), of(1, 3, 3, 1), of(1, 2, 1)}, {of(0, 0, 0, 5), of(0, 0, 7), of(0, 0, 1)},
		// No common factors, and degrees that fall by more than one.
		{of(1, 0, 1), of(1, 1), of(1)}, {of(-5, 2, 8, -3, -3, 0, 1, 0, 1), of(21, -9, -4, 0, 5, 0, 3), of(1)}, {of(-1, 0, 0, 0, 0, 0, 1), of(-1, 0, 0, 0, 1), of(-1, 0, 1)}, {of(-1, 0, 0, 0, 0, 0, 0, 0, 0, 0, 1), of(-2, 0, 0, 0, 0, 0, 2), of(-1, 0, 1)},
	} {
		if g, e := polynomial.Gcd(c.a, c.b); e != api.OK || !slices.Equal(g, c.want) {
			t.Errorf("P3.4: %s and %s: %s, %d", polynomial.Print(c.a), polynomial.Print(c.b), polynomial.Print(g), e)
		}
	}
}

// P3.4: x^m - 1 and x^n - 1 have x^g - 1 in common, where g is the common divisor of m and n, up to the greatest degree.
func TestUnity(t *testing.T) {
	unity := func(n int) []api.Int { return polynomial.Sub(monomial(1, n), of(1)) }
	for m := 1; m <= api.MaxDegree; m++ {
		for n := 1; n <= api.MaxDegree; n++ {
			g, rest := m, n
			for rest > 0 {
				g, rest = rest, g%rest
			}
			if p := common(t, unity(m), unity(n)); !slices.Equal(p, unity(g)) {
				t.Fatalf("P3.4: x^%d - 1 and x^%d - 1: %s", m, n, polynomial.Print(p))
			}
		}
	}
}

// P3.4: common factors of polynomials of degree MaxDegree.
func TestLongDivisors(t *testing.T) {
	r := rand.New(rand.NewSource(37))
	full := func(n int) []api.Int {
		p := monomial(int64(1+r.Intn(3)), n)
		for i := range n {
			p[i] = of(int64(r.Intn(9) - 4))[0]
		}
		return p
	}
	for _, n := range []int{1, 7, 30, 50, 63, 64} {
		f := full(n)
		a, b := product(t, f, full(api.MaxDegree-n)), product(t, f, full(api.MaxDegree-n))
		if g := common(t, a, b); !slices.Equal(g, divisor(a, b)) || !divides(f, g) {
			t.Errorf("P3.4: degree %d with a common factor of degree %d: degree %d", api.MaxDegree, n, polynomial.Degree(g))
		}
	}
}

// P3.4: degrees of rests that fall in all kinds of steps. The polynomials are made from their last rest on.
func TestSteps(t *testing.T) {
	r := rand.New(rand.NewSource(38))
	leads := []int64{-3, -2, -1, 1, 2, 3, 5}
	for range 1500 {
		a, b := of(r.Int63n(9)-4, leads[r.Intn(len(leads))]), []api.Int(nil)
		for polynomial.Degree(a) < 12 {
			quotient := monomial(leads[r.Intn(len(leads))], 1+r.Intn(4))
			quotient[0] = of(r.Int63n(5) - 2)[0]
			a, b = polynomial.Add(product(t, quotient, a), b), a
		}
		if g := common(t, a, b); !slices.Equal(g, divisor(a, b)) {
			t.Fatalf("P3.4: the common divisor of %v and %v: %v", value(a), value(b), value(g))
		}
	}
}

// P3.4: the degrees 6, 5 and 3 with the leading coefficients 1, 4 and 2, where a number that is not taken from the step by two would not divide what follows.
func TestStepByTwo(t *testing.T) {
	r := rand.New(rand.NewSource(39))
	small := func() int64 { return r.Int63n(9) - 4 }
	for range 400 {
		a, b := of(small(), small(), small(), 0, 0, 1, 1), of(small(), small(), 0, -1, 2, 4)
		f := of(small(), 1)
		for _, c := range [][2][]api.Int{{a, b}, {b, a}, {product(t, a, f), product(t, b, f)}} {
			if g := common(t, c[0], c[1]); !slices.Equal(g, divisor(c[0], c[1])) {
				t.Fatalf("P3.4: the common divisor of %v and %v: %v", value(c[0]), value(c[1]), value(g))
			}
		}
	}
}
