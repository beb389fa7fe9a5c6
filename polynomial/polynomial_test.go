package polynomial_test

import (
	"math/big"
	"math/rand"
	"slices"
	"testing"

	"groove/api"
	"groove/integer"
	"groove/polynomial"
)

// P3.1: the examples of the chapter.
func TestExamples(t *testing.T) {
	q, r, e := polynomial.Divide(of(1, -2, 0, 1), of(-1, 1))
	if e != api.OK || polynomial.Print(q) != "x^2 + x - 1" || len(r) > 0 {
		t.Errorf("P3.1: x^3 - 2*x + 1 by x - 1: %s, %s, %d", polynomial.Print(q), polynomial.Print(r), e)
	}
	if g, e := polynomial.Gcd(of(-2, 0, 2), of(-3, 3)); e != api.OK || polynomial.Print(g) != "x - 1" {
		t.Errorf("P3.1: the common divisor of 2*x^2 - 2 and 3*x - 3: %s, %d", polynomial.Print(g), e)
	}
	if s, e := polynomial.Squarefree(of(0, 0, -4, 4)); e != api.OK || polynomial.Print(s) != "x^2 - x" {
		t.Errorf("P3.1: the square-free polynomial of 4*x^3 - 4*x^2: %s, %d", polynomial.Print(s), e)
	}
}

// P3.1: functions of one polynomial against the definitions.
func TestOne(t *testing.T) {
	for _, p := range samples(1, 4000) {
		n := value(p)
		if d := polynomial.Degree(p); d != len(n)-1 {
			t.Fatalf("P3.1: the degree of %v: %d", p, d)
		}
		if c := polynomial.Canonical(p); !slices.Equal(c, integers(n)) {
			t.Fatalf("P3.1: the canonical list of %v: %v", p, c)
		}
		derived := zeros(len(n))
		for i, c := range n[min(1, len(n)):] {
			derived[i].Mul(c, big.NewRat(int64(i+1), 1))
		}
		if d := polynomial.Derivative(p); !slices.Equal(d, integers(derived)) {
			t.Fatalf("P3.1: the derivative of %v: %v", p, d)
		}
	}
}

// P3.1: functions of two polynomials against the definitions.
func TestTwo(t *testing.T) {
	pairs(2, 6000, func(a, b []api.Int) {
		m, n := value(a), value(b)
		sum, difference := zeros(max(len(m), len(n))), zeros(max(len(m), len(n)))
		for i, c := range m {
			sum[i].Add(sum[i], c)
			difference[i].Add(difference[i], c)
		}
		for i, c := range n {
			sum[i].Add(sum[i], c)
			difference[i].Sub(difference[i], c)
		}
		if p := polynomial.Add(a, b); !slices.Equal(p, integers(sum)) {
			t.Fatalf("P3.1: %v + %v: %v", m, n, p)
		}
		if p := polynomial.Sub(a, b); !slices.Equal(p, integers(difference)) {
			t.Fatalf("P3.1: %v - %v: %v", m, n, p)
		}
		if p, e := polynomial.Mul(a, b); e != api.OK || !slices.Equal(p, integers(multiply(m, n))) {
			t.Fatalf("P3.1: %v * %v: %v, %d", m, n, p, e)
		}
	})
}

// P3.1: what is 0 has the empty list.
func TestZero(t *testing.T) {
	for _, p := range edges()[:5] {
		if polynomial.Degree(p) != -1 || len(polynomial.Canonical(p)) > 0 || len(polynomial.Derivative(p)) > 0 || len(polynomial.Add(p, p)) > 0 || len(polynomial.Sub(nil, p)) > 0 {
			t.Errorf("P3.1: computing with %v", p)
		}
		if m, e := polynomial.Mul(p, of(1, 2)); e != api.OK || len(m) > 0 {
			t.Errorf("P3.1: %v * 1 + 2*x: %v, %d", p, m, e)
		}
		if m, e := polynomial.Mul(of(1, 2), p); e != api.OK || len(m) > 0 {
			t.Errorf("P3.1: 1 + 2*x * %v: %v, %d", p, m, e)
		}
	}
	for _, p := range samples(3, 300) {
		if d := polynomial.Sub(p, canonical(p)); len(d) > 0 {
			t.Errorf("P3.1: %v - itself: %v", p, d)
		}
	}
}

// P3.1: sums, differences, derivatives, degrees and canonical lists of polynomials that are too large elsewhere.
func TestLong(t *testing.T) {
	for _, n := range []int{api.MaxDegree, api.MaxDegree + 1, 1000, 20000} {
		p := append(monomial(-3, n), api.Int{}, api.Int{Neg: true, Mag: "\x00"})
		q := monomial(-3, n)
		if polynomial.Degree(p) != n || !slices.Equal(polynomial.Canonical(p), q) {
			t.Errorf("P3.1: -3*x^%d", n)
		}
		if d := polynomial.Derivative(p); !slices.Equal(d, monomial(-3*int64(n), n-1)) {
			t.Errorf("P3.1: the derivative of -3*x^%d has the degree %d", n, polynomial.Degree(d))
		}
		want := monomial(-3, n)
		want[1] = integer.Of(5)
		if s := polynomial.Add(of(0, 5), p); !slices.Equal(s, want) {
			t.Errorf("P3.1: 5*x - 3*x^%d has the degree %d", n, polynomial.Degree(s))
		}
		if s := polynomial.Sub(want, p); !slices.Equal(s, of(0, 5)) {
			t.Errorf("P3.1: 5*x without 3*x^%d has the degree %d", n, polynomial.Degree(s))
		}
	}
}

// large returns polynomials that are too large.
func large() [][]api.Int {
	n := api.MaxDegree + 1
	return [][]api.Int{monomial(1, n), monomial(-7, n), append(monomial(1, n), api.Int{}), monomial(2, n+1), monomial(1, 500), polynomial.Add(monomial(1, n), of(-1, 4))}
}

// P3.1: ErrLimit comes before all other errors, and nothing stands beside it.
func TestLarge(t *testing.T) {
	others := append(edges(), large()...)
	for _, p := range large() {
		for _, q := range others {
			checkLarge(t, p, q)
			checkLarge(t, q, p)
		}
		for _, r := range []api.Rat{raw(0, 1), raw(1, 1), {}, raw(5, 0), raw(2, -4)} {
			if v, e := polynomial.At(p, r); e != api.ErrLimit || v != (api.Rat{}) {
				t.Errorf("P3.1: degree %d at %s: %v, %d", polynomial.Degree(p), quantity(r), v, e)
			}
		}
		if s, e := polynomial.Squarefree(p); e != api.ErrLimit || s != nil {
			t.Errorf("P3.1: the square-free polynomial of degree %d: %v, %d", polynomial.Degree(p), s, e)
		}
	}
}

// checkLarge checks the division and the common divisor of polynomials one of which is too large.
func checkLarge(t *testing.T, a, b []api.Int) {
	t.Helper()
	if q, r, e := polynomial.Divide(a, b); e != api.ErrLimit || q != nil || r != nil {
		t.Errorf("P3.1: degrees %d by %d: %v, %v, %d", polynomial.Degree(a), polynomial.Degree(b), q, r, e)
	}
	if g, e := polynomial.Gcd(a, b); e != api.ErrLimit || g != nil {
		t.Errorf("P3.1: the common divisor of degrees %d and %d: %v, %d", polynomial.Degree(a), polynomial.Degree(b), g, e)
	}
}

// P3.1: zeros at the end of a list do not make a polynomial too large.
func TestManyZeros(t *testing.T) {
	long := func(p []api.Int) []api.Int { return append(slices.Clone(p), make([]api.Int, 200)...) }
	a, b := long(of(-2, 0, 2)), long(of(-3, 3))
	if q, r, e := polynomial.Divide(a, b); e != api.OK || !slices.Equal(q, of(6, 6)) || len(r) > 0 {
		t.Errorf("P3.1: Divide: %v, %v, %d", q, r, e)
	}
	if g, e := polynomial.Gcd(a, b); e != api.OK || !slices.Equal(g, of(-1, 1)) {
		t.Errorf("P3.1: Gcd: %v, %d", g, e)
	}
	if s, e := polynomial.Squarefree(a); e != api.OK || !slices.Equal(s, of(-1, 0, 1)) {
		t.Errorf("P3.1: Squarefree: %v, %d", s, e)
	}
	if v, e := polynomial.At(a, raw(3, 1)); e != api.OK || v != raw(16, 1) {
		t.Errorf("P3.1: At: %v, %d", v, e)
	}
	if p, e := polynomial.Mul(a, b); e != api.OK || !slices.Equal(p, of(6, -6, -6, 6)) {
		t.Errorf("P3.1: Mul: %v, %d", p, e)
	}
	if _, _, e := polynomial.Divide(a, make([]api.Int, 200)); e != api.ErrDivide {
		t.Errorf("P3.1: Divide by 0: %d", e)
	}
	if _, e := polynomial.Squarefree(make([]api.Int, 200)); e != api.ErrArgument {
		t.Errorf("P3.1: Squarefree of 0: %d", e)
	}
}

// results returns the lists that all functions return for two polynomials.
func results(a, b []api.Int) [][]api.Int {
	product, _ := polynomial.Mul(a, b)
	quotient, rest, _ := polynomial.Divide(a, b)
	divisor, _ := polynomial.Gcd(a, b)
	simple, _ := polynomial.Squarefree(a)
	return [][]api.Int{polynomial.Canonical(a), polynomial.Add(a, b), polynomial.Sub(a, b), product, quotient, rest, divisor, polynomial.Derivative(a), simple}
}

// P3.1: all results are canonical, and equal for all lists of the same polynomials.
func TestCanonical(t *testing.T) {
	r := rand.New(rand.NewSource(4))
	pairs(5, 800, func(a, b []api.Int) {
		want := results(canonical(a), canonical(b))
		for i, p := range results(loose(r, a), loose(r, b)) {
			if !same(p, p) || !slices.Equal(p, want[i]) {
				t.Fatalf("P3.1: result %d for %v and %v: %v, not %v", i, value(a), value(b), p, want[i])
			}
		}
	})
}

// P3.1: arguments are not changed (R3), and results have their own memory.
func TestMemory(t *testing.T) {
	pairs(6, 200, func(a, b []api.Int) {
		x, y := slices.Clone(a), slices.Clone(b)
		lists := results(x, y)
		if !slices.Equal(x, a) || !slices.Equal(y, b) {
			t.Fatalf("P3.1: %v and %v have become %v and %v", a, b, x, y)
		}
		want := results(x, y)
		for i, p := range lists {
			clear(p)
			want[i] = nil
			for j, q := range want {
				if q != nil && !slices.Equal(lists[j], q) {
					t.Fatalf("P3.1: for %v and %v the results %d and %d share memory", a, b, i, j)
				}
			}
		}
		if !slices.Equal(x, a) || !slices.Equal(y, b) {
			t.Fatalf("P3.1: results share memory with %v and %v", a, b)
		}
	})
}
