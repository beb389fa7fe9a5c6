package algebraic_test

import (
	"math/big"
	"math/rand"
	"testing"

	"groove/algebraic"
	"groove/api"
	"groove/polynomial"
)

// variants returns other representations of the value of x: in narrower and wider intervals, and by polynomials with further roots.
func variants(t *testing.T, r *rand.Rand, x api.Real) []api.Real {
	t.Helper()
	var list []api.Real
	add := func(low, high *big.Rat, p []api.Int) {
		if len(p) > 1 && isSimple(p) && rootsIn(value(p), low, high) == 1 {
			list = append(list, realIn(low, high, p))
		}
	}
	s := spotOf(x)
	narrow := s
	for range 1 + r.Intn(70) {
		narrow = narrow.halved()
	}
	add(narrow.low, narrow.high, x.Poly)
	// Wider ones, if no other root comes in.
	one := big.NewRat(1, 1)
	add(new(big.Rat).Sub(s.low, one), s.high, x.Poly)
	add(s.low, new(big.Rat).Add(s.high, one), x.Poly)
	// Further factors, some of them with roots at the lower end of an interval, or just outside.
	factor := random(r, 4)
	add(s.low, s.high, simplified(t, product(t, x.Poly, factor)))
	for _, root := range []*big.Rat{s.low, narrow.low, new(big.Rat).Add(narrow.high, big.NewRat(1, 1000)), place(r)} {
		p := simplified(t, product(t, x.Poly, linear(root), of(1, 1, 1)))
		add(s.low, s.high, p)
		add(narrow.low, narrow.high, p)
	}
	// A value that is rational, at the upper end and inside, by the linear polynomial.
	for _, places := range []int{0, 2} {
		if d := digits(t, x, places); s.compare(d) == 0 {
			below := new(big.Rat).Sub(d, big.NewRat(1, 1+r.Int63n(9)))
			add(below, d, linear(d))
			add(below, new(big.Rat).Add(d, one), linear(d))
			if below.Cmp(s.low) > 0 {
				add(below, d, x.Poly)
			}
		}
	}
	for _, v := range list {
		if s.order(spotOf(v)) != 0 {
			t.Fatalf("%s is no variant of %s", text(v), text(x))
		}
	}
	return list
}

// P6.8: no function tells representations of the same value apart.
func TestRepresentations(t *testing.T) {
	r := rand.New(rand.NewSource(81))
	others := reals(t, 82, 30, 5)
	number := 0
	for _, x := range reals(t, 83, 70, 5) {
		p, at, y, places := random(r, 6), place(r), others[r.Intn(len(others))], r.Intn(31)
		m := big.NewInt(r.Int63n(50))
		for _, v := range variants(t, r, x) {
			number++
			if e := algebraic.Check(v); e != api.OK {
				t.Fatalf("P6.8: %s: %d", text(v), e)
			}
			if m, n := compare(t, x, v), compare(t, v, x); m != 0 || n != 0 {
				t.Fatalf("P6.8: %s, compared with %s: %d, and in the other order %d", text(x), text(v), m, n)
			}
			if compare(t, x, y) != compare(t, v, y) || compare(t, y, v) != compare(t, y, x) {
				t.Fatalf("P6.8: %s and %s, compared with %s", text(x), text(v), text(y))
			}
			if compareRat(t, x, at) != compareRat(t, v, at) {
				t.Fatalf("P6.8: %s and %s, compared with %s", text(x), text(v), at)
			}
			for _, q := range [][]api.Int{p, x.Poly, v.Poly, of(0, 1)} {
				if sign(t, q, x) != sign(t, q, v) {
					t.Fatalf("P6.8: the signs of %s at %s and %s", polynomial.Print(q), text(x), text(v))
				}
			}
			if floor(t, x).Cmp(floor(t, v)) != 0 || digits(t, x, places).Cmp(digits(t, v, places)) != 0 {
				t.Fatalf("P6.8: the floors or %d digits of %s and %s", places, text(x), text(v))
			}
			n := 1 + r.Intn(api.MaxBlock)
			a, e := algebraic.ComparePower(x, n, whole(m))
			b, f := algebraic.ComparePower(v, n, whole(m))
			if a != b || e != f || e != api.OK && (e != api.ErrRange || compareRat(t, x, new(big.Rat)) >= 0) {
				t.Fatalf("P6.8: the powers %d of %s and %s, compared with %s: %d, %d, with the errors %d, %d", n, text(x), text(v), m, a, b, e, f)
			}
		}
	}
	if number < 200 {
		t.Fatalf("only %d variants", number)
	}
}
