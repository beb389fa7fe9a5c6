package matrix_test

import (
	"math/rand"
	"testing"

	"groove/matrix"
)

// P4.2: products are associative, and distribute over sums on both sides.
func TestRing(t *testing.T) {
	sides(11, 500, func(r *rand.Rand, k, m, n int) {
		a, b, c := random(r, k, m), random(r, m, n), random(r, n, 1+r.Intn(4))
		if !same(mul(t, mul(t, a, b), c), mul(t, a, mul(t, b, c))) {
			t.Fatalf("P4.2: %v, %v and %v are not associative", a, b, c)
		}
		d, e := random(r, m, n), random(r, k, m)
		if !same(mul(t, a, add(t, b, d)), add(t, mul(t, a, b), mul(t, a, d))) {
			t.Fatalf("P4.2: %v is not distributed over %v and %v", a, b, d)
		}
		if !same(mul(t, add(t, a, e), b), add(t, mul(t, a, b), mul(t, e, b))) {
			t.Fatalf("P4.2: %v is not distributed over %v and %v", b, a, e)
		}
		if f := random(r, k, m); !same(add(t, a, e), add(t, e, a)) || !same(add(t, add(t, a, e), f), add(t, a, add(t, e, f))) {
			t.Fatalf("P4.2: sums of %v, %v and %v", a, e, f)
		}
	})
}

// P4.2: the identity changes nothing on either side, and neither does 0 in sums.
func TestNeutral(t *testing.T) {
	sides(12, 300, func(r *rand.Rand, k, m, _ int) {
		a := random(r, k, m)
		left, _ := matrix.Identity(k)
		right, _ := matrix.Identity(m)
		if !same(mul(t, left, a), a) || !same(mul(t, a, right), a) || !same(add(t, a, zero(k, m)), a) || !same(add(t, zero(k, m), a), a) {
			t.Fatalf("P4.2: %v with the identity or with 0", a)
		}
		if !same(mul(t, zero(2, k), a), zero(2, m)) || !same(mul(t, a, zero(m, 3)), zero(k, 3)) {
			t.Fatalf("P4.2: %v times 0", a)
		}
	})
}

// P4.2: the transpose of a product is the product of the transposes in the opposite order.
func TestTransposes(t *testing.T) {
	sides(13, 500, func(r *rand.Rand, k, m, n int) {
		a, b := random(r, k, m), random(r, m, n)
		if !same(transpose(t, mul(t, a, b)), mul(t, transpose(t, b), transpose(t, a))) {
			t.Fatalf("P4.2: the transpose of %v * %v", a, b)
		}
		if !same(transpose(t, transpose(t, a)), a) {
			t.Fatalf("P4.2: the transpose of the transpose of %v", a)
		}
	})
}

// P4.2: products depend on the order of the factors.
func TestOrder(t *testing.T) {
	a, b := squares()[9], transpose(t, squares()[9])
	if same(mul(t, a, b), mul(t, b, a)) {
		t.Errorf("P4.2: %v and %v commute", a, b)
	}
}
