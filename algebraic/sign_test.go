package algebraic_test

import (
	"math/big"
	"math/rand"
	"testing"

	"groove/algebraic"
	"groove/api"
	"groove/polynomial"
)

// P6.5: any signs, against the definition; some polynomials are multiples of that of the number.
func TestSigns(t *testing.T) {
	r := rand.New(rand.NewSource(51))
	for _, x := range reals(t, 52, 250, 6) {
		for range 4 {
			p := random(r, 7)
			if r.Intn(3) == 0 {
				p = product(t, p, x.Poly)
			}
			if n := sign(t, p, x); n != spotOf(x).sign(value(p)) {
				t.Fatalf("P6.5: the sign of %s at %s: %d", polynomial.Print(p), text(x), n)
			}
		}
	}
}

// P6.5: the sign of a product is the product of the signs, and that of the opposite polynomial the opposite one.
func TestSignsOfProducts(t *testing.T) {
	r := rand.New(rand.NewSource(53))
	for _, x := range reals(t, 54, 200, 7) {
		p, q := random(r, 6), random(r, 6)
		if r.Intn(4) == 0 {
			p = product(t, p, linear(place(r)), x.Poly)
		}
		s := sign(t, p, x)
		if n := sign(t, product(t, p, q), x); n != s*sign(t, q, x) {
			t.Fatalf("P6.5: the sign of the product of %s and %s at %s: %d", polynomial.Print(p), polynomial.Print(q), text(x), n)
		}
		if n := sign(t, product(t, p, p), x); n != s*s {
			t.Fatalf("P6.5: the sign of the square of %s at %s: %d", polynomial.Print(p), text(x), n)
		}
		if n := sign(t, polynomial.Sub(nil, p), x); n != -s {
			t.Fatalf("P6.5: the sign of the opposite of %s at %s: %d", polynomial.Print(p), text(x), n)
		}
	}
}

// P6.5: at the value, Poly is 0, and its derivative is not.
func TestDerivatives(t *testing.T) {
	for _, x := range reals(t, 55, 150, 7) {
		if n := sign(t, x.Poly, x); n != 0 {
			t.Fatalf("P6.5: the sign of Poly at %s: %d", text(x), n)
		}
		slope := sign(t, polynomial.Derivative(x.Poly), x)
		if slope == 0 {
			t.Fatalf("P6.5: the derivative is 0 at %s", text(x))
		}
		// Just above the value, Poly has the sign of the derivative.
		s := spotOf(x)
		for range 5 {
			s = s.halved()
		}
		if above := valueAt(s.poly, s.high).Sign(); above != 0 && above != slope {
			t.Fatalf("P6.5: the sign of the derivative at %s: %d", text(x), slope)
		}
	}
}

// P6.5: known signs.
func TestKnownSigns(t *testing.T) {
	golden, small := realOf(1, 2, -1, -1, 1), realOf(-1, 0, -1, -1, 1)
	two, three := realOf(1, 2, -2, 0, 1), realOf(0, 9, -3, 1)
	for _, c := range []struct {
		p    []api.Int
		x    api.Real
		want int
	}{
		// 0, constants, and x.
		{nil, two, 0}, {[]api.Int{}, small, 0}, {of(1), two, 1}, {of(-7), two, -1}, {of(256), small, 1}, {of(0, 1), two, 1}, {of(0, 1), small, -1}, {of(0, -3), small, 1}, {of(0, 1), realOf(-1, 1, 0, 1), 0},
		// Multiples of Poly, and factors of it that are 0 there or not.
		{of(-2, 0, 1), two, 0}, {of(2, 0, -1), two, 0}, {of(-4, 0, 2), two, 0}, {of(4, 0, -4, 0, 1), two, 0}, {of(-4, 0, 0, 0, 1), two, 0}, {of(-5, 1), realOf(0, 3, 10, -2, -5, 1), -1}, {of(-2, 0, 1), realOf(0, 3, 10, -2, -5, 1), 0}, {of(-2, 0, 1), realOf(4, 6, 10, -2, -5, 1), 1}, {of(-5, 1), realOf(4, 6, 10, -2, -5, 1), 0},
		// Common roots that are other roots: at the lower end of the interval, below and above it.
		{of(-1, 1), realOf(1, 2, 2, -3, 1), 1}, {of(0, 1), realOf(0, 1, 0, -1, 0, 1), 1}, {of(0, 1, 0, 0, 1), realOf(0, 1, 0, -1, 0, 1), 1}, {of(1, 1), realOf(0, 1, 0, -1, 0, 1), 1}, {of(-1, 1), realOf(-1, 0, 0, -1, 0, 1), -1}, {of(-1, 0, 1), realOf(-1, 0, 0, -1, 0, 1), -1}, {of(2, -3, 1), realOf(2, 4, 6, -5, 1), 1},
		// Roots that are in the interval, too: below the value, above it, on both sides, and at the upper end.
		{of(-7, 5), two, 1}, {of(7, -5), two, -1}, {of(-3, 2), two, -1}, {of(21, -29, 10), two, -1}, {of(-2, 1), two, -1}, {of(-3, 0, 1), realOf(0, 3, -2, 0, 1), -1}, {of(-2, 1, 1), realOf(-9, 3, -2, 1), 1}, {of(-3, 0, 0, 1), two, -1}, {of(-5, 0, 0, 2), two, 1}, {of(2, -3, 1), two, -1},
		{of(-2, 0, 1), golden, 1}, {of(-3, 2), golden, 1}, {of(-5, 3), golden, -1}, {of(-13, 8), golden, -1}, {of(-21, 13), golden, 1}, {of(3, 5), small, -1}, {of(2, 3), small, 1}, {of(-1, -1, 1), small, 0},
		// The value at the upper end.
		{of(-3, 1), algebraic.Of(ratio(3, 1)), 0}, {of(-3, 1), three, 0}, {of(-9, 0, 1), realOf(1, 3, -3, 1), 0}, {of(-2, 1), realOf(1, 3, -3, 1), 1}, {of(-5, 2), realOf(1, 3, -3, 1), 1}, {of(10, -9, 2), realOf(1, 3, -3, 1), 1}, {of(-10, 3), realOf(1, 3, -3, 1), -1},
		// Repeated roots near the value.
		{of(49, -70, 25), two, 1}, {of(9, -12, 4), two, 1}, {of(-343, 735, -525, 125), two, 1}, {of(-27, 54, -36, 8), two, -1},
	} {
		if n := sign(t, c.p, c.x); n != c.want {
			t.Errorf("P6.5: the sign of %s at %s: %d, not %d", polynomial.Print(c.p), text(c.x), n, c.want)
		}
	}
}

// P6.5: signs that only a very narrow interval tells.
func TestNearSigns(t *testing.T) {
	two := realOf(0, 4, -2, 0, 1)
	scale := big.NewInt(1)
	for range 25 {
		scale.Mul(scale, big.NewInt(1000))
		// The greatest integers whose squares are at most 2 * scale^2.
		root := new(big.Int).Mul(scale, scale)
		root.Sqrt(root.Lsh(root, 1))
		below := []api.Int{whole(new(big.Int).Neg(root)), whole(scale)}
		above := []api.Int{whole(new(big.Int).Not(root)), whole(scale)}
		if m, n := sign(t, below, two), sign(t, above, two); m != 1 || n != -1 {
			t.Fatalf("P6.5: the signs of %s and %s at the root of 2: %d, %d", polynomial.Print(below), polynomial.Print(above), m, n)
		}
		if n := sign(t, product(t, below, above), two); n != -1 {
			t.Fatalf("P6.5: the sign of their product at the root of 2: %d", n)
		}
	}
}
