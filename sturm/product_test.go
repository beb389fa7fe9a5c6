package sturm_test

import (
	"math/big"
	"math/rand"
	"slices"
	"testing"

	"groove/api"
	"groove/polynomial"
)

// ends returns two random numbers in ascending order.
func ends(r *rand.Rand) (*big.Rat, *big.Rat) {
	a, b := place(r), place(r)
	if a.Cmp(b) > 0 {
		return b, a
	}
	return a, b
}

// P5.6: the roots of a product are those of its factors, where those that both have count once.
func TestProducts(t *testing.T) {
	r := rand.New(rand.NewSource(61))
	check := func(a, b []api.Int) {
		p := product(t, a, b)
		common, e := polynomial.Gcd(a, b)
		if e != api.OK {
			t.Fatal(e)
		}
		if n := roots(t, p); n != roots(t, a)+roots(t, b)-roots(t, common) {
			t.Fatalf("P5.6: the roots of %s times %s: %d", polynomial.Print(a), polynomial.Print(b), n)
		}
		low, high := ends(r)
		if n := count(t, p, low, high); n != count(t, a, low, high)+count(t, b, low, high)-count(t, common, low, high) {
			t.Fatalf("P5.6: the roots of %s times %s from %s to %s: %d", polynomial.Print(a), polynomial.Print(b), low, high, n)
		}
	}
	list := edges()
	for i, a := range list {
		for _, b := range list[:i+1] {
			check(a, b)
		}
	}
	for range 300 {
		a, b, f := random(r, 6), random(r, 6), random(r, 3)
		check(a, b)
		check(product(t, a, f), product(t, b, f))
	}
}

// P5.6: squaring changes nothing: no chain, no number of roots, and no interval that is left. So do factors that are constants, and other powers.
func TestSquares(t *testing.T) {
	r := rand.New(rand.NewSource(62))
	for _, p := range samples(63, 100, 8) {
		list, low, high := chain(t, p), big.NewRat(-30, 1), big.NewRat(30, 1)
		for _, q := range [][]api.Int{product(t, p, p), product(t, p, p, p), product(t, p, of(-6)), product(t, p, of(12)), product(t, p, of(-1))} {
			if !slices.EqualFunc(chain(t, q), list, slices.Equal[[]api.Int]) {
				t.Fatalf("P5.6: the chains of %s and %s", polynomial.Print(p), polynomial.Print(q))
			}
			a, b := ends(r)
			if roots(t, q) != roots(t, p) || count(t, q, a, b) != count(t, p, a, b) || count(t, q, low, high) != count(t, p, low, high) {
				t.Fatalf("P5.6: the roots of %s and %s", polynomial.Print(p), polynomial.Print(q))
			}
			if n := len(isolate(t, q)); n != roots(t, p) {
				t.Fatalf("P5.6: %d intervals of %s", n, polynomial.Print(q))
			}
			for _, i := range isolate(t, p) {
				width := big.NewRat(1, 1+r.Int63n(50))
				if x, y := refine(t, p, i, width), refine(t, q, i, width); x != y {
					t.Fatalf("P5.6: %s and %s from %s, refined: %s and %s", polynomial.Print(p), polynomial.Print(q), text(i), text(x), text(y))
				}
			}
		}
	}
}

// P5.6: squaring up to the greatest degree.
func TestLongSquares(t *testing.T) {
	p := of(1)
	for i := range int64(api.MaxDegree / 2) {
		p = product(t, p, of(i-16, 1+i%3))
	}
	n := roots(t, p)
	if m := roots(t, product(t, p, p)); m != n || n < 20 {
		t.Errorf("P5.6: %d roots, and %d of the square", n, m)
	}
}
