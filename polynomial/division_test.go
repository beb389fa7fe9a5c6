package polynomial_test

import (
	"math/big"
	"math/rand"
	"slices"
	"testing"

	"groove/api"
	"groove/polynomial"
)

// checkDivision checks a / b by the equation and by the degrees; a product with b is too large only where a is.
func checkDivision(t *testing.T, a, b []api.Int) {
	t.Helper()
	q, r, e := polynomial.Divide(a, b)
	m, n := value(a), value(b)
	if len(n) == 0 {
		if e != api.ErrDivide || q != nil || r != nil {
			t.Fatalf("P3.3: %v by 0: %v, %v, %d", m, q, r, e)
		}
		return
	}
	if e != api.OK || !same(q, q) || !same(r, r) || polynomial.Degree(r) >= len(n)-1 {
		t.Fatalf("P3.3: %v by %v: %v, %v, %d", m, n, value(q), value(r), e)
	}
	factor := new(big.Int).Exp(n[len(n)-1].Num(), big.NewInt(int64(max(0, len(m)-len(n)+1))), nil)
	left := product(t, a, []api.Int{whole(factor)})
	if !slices.Equal(left, polynomial.Add(product(t, q, b), r)) {
		t.Fatalf("P3.3: %v by %v: %v, %v", m, n, value(q), value(r))
	}
}

// P3.3: the equation of pseudo-division.
func TestDivision(t *testing.T) {
	pairs(21, 6000, func(a, b []api.Int) {
		checkDivision(t, a, b)
	})
}

// P3.3: pseudo-division against the division with rational coefficients.
func TestRationalDivision(t *testing.T) {
	pairs(22, 1500, func(a, b []api.Int) {
		m, n := value(a), value(b)
		if len(n) == 0 {
			return
		}
		q, r, _ := polynomial.Divide(a, b)
		factor := big.NewRat(1, 1)
		for range len(m) - len(n) + 1 {
			factor.Mul(factor, n[len(n)-1])
		}
		quotient, rest := divideRational(m, n)
		for _, c := range [][2][]*big.Rat{{value(q), quotient}, {value(r), rest}} {
			if !slices.EqualFunc(c[0], c[1], func(x, y *big.Rat) bool { return x.Cmp(new(big.Rat).Mul(y, factor)) == 0 }) {
				t.Fatalf("P3.3: %v by %v: %v, %v", m, n, value(q), value(r))
			}
		}
	})
}

// P3.3: known quotients and rests.
func TestKnownDivisions(t *testing.T) {
	for _, c := range []struct{ a, b, q, r []api.Int }{
		{of(1, -2, 0, 1), of(-1, 1), of(-1, 1, 1), nil},
		// A dividend with a lesser degree, and 0.
		{of(1, 1), of(0, 0, 3), nil, of(1, 1)}, {of(5), of(0, 2), nil, of(5)}, {nil, of(4), nil, nil}, {nil, of(0, 0, -4), nil, nil},
		// Constants.
		{of(6), of(4), of(6), nil}, {of(6), of(-4), of(6), nil}, {of(0, 0, 1), of(2), of(0, 0, 4), nil}, {of(1, 1), of(-3), of(-3, -3), nil},
		// Negative leading coefficients.
		{of(1, 0, 1), of(1, -2), of(-1, -2), of(5)}, {of(1, 0, -1), of(1, 2), of(1, -2), of(3)}, {of(0, 0, 0, -1), of(0, -1), of(0, 0, -1), nil}, {of(3, 1), of(1, -1), of(1), of(-4)},
		// The power of the leading coefficient is the greatest one even if fewer steps would do.
		{of(1, 0, 0, 2), of(0, 0, 2), of(0, 4), of(4)}, {of(7, 0, 0, 0, 4), of(0, 0, 2), of(0, 0, 16), of(56)}, {of(5, 0, 0, 1), of(1, 0, 3), of(0, 3), of(45, -3)},
	} {
		if q, r, e := polynomial.Divide(c.a, c.b); e != api.OK || !slices.Equal(q, c.q) || !slices.Equal(r, c.r) {
			t.Errorf("P3.3: %s by %s: %s, %s, %d", polynomial.Print(c.a), polynomial.Print(c.b), polynomial.Print(q), polynomial.Print(r), e)
		}
	}
}

// P3.3: a product divided by a factor leaves no rest.
func TestFactors(t *testing.T) {
	pairs(23, 3000, func(a, b []api.Int) {
		n := value(b)
		if len(n) == 0 {
			return
		}
		q, r, e := polynomial.Divide(product(t, a, b), b)
		want := canonical(a)
		for range want {
			want = product(t, want, []api.Int{whole(n[len(n)-1].Num())})
		}
		if e != api.OK || len(r) > 0 || !slices.Equal(q, want) {
			t.Fatalf("P3.3: %v times %v by the second one: %v, %v, %d", value(a), n, value(q), value(r), e)
		}
	})
}

// P3.3: degrees up to MaxDegree.
func TestLongDivisions(t *testing.T) {
	r := rand.New(rand.NewSource(24))
	for range 60 {
		a := polynomial.Add(monomial(int64(1+r.Intn(9)), api.MaxDegree), random(r, api.MaxDegree))
		b := polynomial.Add(monomial(int64(-1-r.Intn(9)), r.Intn(api.MaxDegree+1)), random(r, 3))
		checkDivision(t, a, b)
		checkDivision(t, b, a)
		checkDivision(t, a, a)
	}
	for n := range api.MaxDegree + 1 {
		checkDivision(t, monomial(-3, api.MaxDegree), monomial(2, n))
		checkDivision(t, monomial(1, n), monomial(-2, api.MaxDegree))
	}
}
