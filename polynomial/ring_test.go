package polynomial_test

import (
	"math/rand"
	"slices"
	"testing"

	"groove/api"
	"groove/polynomial"
)

// P3.2: the laws of rings.
func TestRing(t *testing.T) {
	r := rand.New(rand.NewSource(11))
	one, zero := of(1), of(0)
	check := func(a, b, c []api.Int) {
		ab := product(t, a, b)
		if !slices.Equal(polynomial.Add(a, b), polynomial.Add(b, a)) || !slices.Equal(ab, product(t, b, a)) {
			t.Fatalf("P3.2: %v and %v do not commute", value(a), value(b))
		}
		if !slices.Equal(polynomial.Add(polynomial.Add(a, b), c), polynomial.Add(a, polynomial.Add(b, c))) || !slices.Equal(product(t, ab, c), product(t, a, product(t, b, c))) {
			t.Fatalf("P3.2: %v, %v and %v are not associative", value(a), value(b), value(c))
		}
		if !slices.Equal(product(t, a, polynomial.Add(b, c)), polynomial.Add(ab, product(t, a, c))) {
			t.Fatalf("P3.2: %v is not distributed over %v and %v", value(a), value(b), value(c))
		}
		if !slices.Equal(polynomial.Sub(polynomial.Add(a, b), b), canonical(a)) || !slices.Equal(polynomial.Add(polynomial.Sub(a, b), b), canonical(a)) {
			t.Fatalf("P3.2: Sub does not undo Add of %v to %v", value(b), value(a))
		}
		if !slices.Equal(product(t, a, one), canonical(a)) || len(product(t, a, zero)) > 0 || !slices.Equal(polynomial.Add(a, zero), canonical(a)) {
			t.Fatalf("P3.2: %v with 0 and 1", value(a))
		}
	}
	pairs(12, 2000, func(a, b []api.Int) { check(a, b, random(r, 9)) })
}

// P3.2: the degree of a product is the sum of the degrees.
func TestDegrees(t *testing.T) {
	pairs(13, 3000, func(a, b []api.Int) {
		m, n, d := polynomial.Degree(a), polynomial.Degree(b), polynomial.Degree(product(t, a, b))
		if m < 0 || n < 0 {
			if d != -1 {
				t.Fatalf("P3.2: %v * %v has the degree %d", value(a), value(b), d)
			}
			return
		}
		if d != m+n {
			t.Fatalf("P3.2: %v * %v has the degree %d", value(a), value(b), d)
		}
	})
}

// P3.2: a product of the degree MaxDegree is the last one that is not too large.
func TestProductLimit(t *testing.T) {
	const most = api.MaxDegree
	for m := range most + 2 {
		a := monomial(3, m)
		if p, e := polynomial.Mul(a, monomial(-5, max(0, most-m))); m <= most && (e != api.OK || !slices.Equal(p, monomial(-15, most))) {
			t.Errorf("P3.2: 3*x^%d times x^%d: %v, %d", m, most-m, p, e)
		}
		for _, b := range [][]api.Int{monomial(-5, most+1-m), polynomial.Add(monomial(1, most+1-m), of(1))} {
			if p, e := polynomial.Mul(a, b); e != api.ErrLimit || p != nil {
				t.Errorf("P3.2: 3*x^%d times degree %d: %v, %d", m, most+1-m, p, e)
			}
			if p, e := polynomial.Mul(b, a); e != api.ErrLimit || p != nil {
				t.Errorf("P3.2: degree %d times 3*x^%d: %v, %d", most+1-m, m, p, e)
			}
		}
	}
	// Only the degree of the product counts.
	for _, p := range large() {
		for _, zero := range edges()[:5] {
			if q, e := polynomial.Mul(p, zero); e != api.OK || len(q) > 0 {
				t.Errorf("P3.2: degree %d times 0: %v, %d", polynomial.Degree(p), q, e)
			}
			if q, e := polynomial.Mul(zero, p); e != api.OK || len(q) > 0 {
				t.Errorf("P3.2: 0 times degree %d: %v, %d", polynomial.Degree(p), q, e)
			}
		}
		if q, e := polynomial.Mul(p, of(2)); e != api.ErrLimit || q != nil {
			t.Errorf("P3.2: degree %d times 2: %v, %d", polynomial.Degree(p), q, e)
		}
	}
	zeros := append(monomial(2, most), make([]api.Int, 100)...)
	if q, e := polynomial.Mul(zeros, append(of(4), make([]api.Int, 100)...)); e != api.OK || !slices.Equal(q, monomial(8, most)) {
		t.Errorf("P3.2: lists with zeros at the end: %v, %d", q, e)
	}
}
