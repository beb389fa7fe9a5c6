package algebraic_test

import (
	"math/big"
	"math/rand"
	"testing"

	"groove/algebraic"
	"groove/api"
)

// surd is the number a + b * (root of d), where d is not a square.
type surd struct{ a, b, d *big.Int }

// times returns the product of two surds with the same d.
func (x surd) times(y surd) surd {
	mul := func(p, q *big.Int) *big.Int { return new(big.Int).Mul(p, q) }
	a := mul(x.a, y.a)
	b := mul(x.a, y.b)
	return surd{a.Add(a, mul(mul(x.b, y.b), x.d)), b.Add(b, mul(x.b, y.a)), x.d}
}

// sign returns the sign of a surd.
func (x surd) sign() int {
	if x.a.Sign() == x.b.Sign() || x.b.Sign() == 0 {
		return x.a.Sign()
	}
	if x.a.Sign() == 0 {
		return x.b.Sign()
	}
	// The part with the greater square decides.
	p, q := new(big.Int).Mul(x.a, x.a), new(big.Int).Mul(x.b, x.b)
	if p.Cmp(q.Mul(q, x.d)) > 0 {
		return x.a.Sign()
	}
	return x.b.Sign()
}

// real returns the representation of a surd with b not 0, by its minimal polynomial and one side of a.
func (x surd) real() api.Real {
	square := new(big.Int).Mul(x.a, x.a)
	part := new(big.Int).Mul(x.b, x.b)
	part.Mul(part, x.d)
	p := []api.Int{whole(square.Sub(square, part)), whole(new(big.Int).Mul(x.a, big.NewInt(-2))), of(1)[0]}
	at, wide := new(big.Rat).SetInt(x.a), new(big.Rat).SetInt(part.Add(part, big.NewInt(1)))
	if x.b.Sign() > 0 {
		return realIn(at, new(big.Rat).Add(at, wide), p)
	}
	return realIn(new(big.Rat).Sub(at, wide), at, p)
}

// P6.6: powers of surds, which are computed exactly, compared with the integers around them and with others.
func TestPowersOfSurds(t *testing.T) {
	r := rand.New(rand.NewSource(61))
	for range 60 {
		d := []int64{2, 3, 5, 6, 7, 10, 13, 99}[r.Intn(8)]
		x := surd{big.NewInt(r.Int63n(20) - 4), big.NewInt(r.Int63n(9) - 4), big.NewInt(d)}
		if x.b.Sign() == 0 || x.sign() < 0 {
			continue
		}
		a := x.real()
		if s := sign(t, of(0, 1), a); s != x.sign() {
			t.Fatalf("P6.6: the sign of %s: %d", text(a), s)
		}
		result := surd{big.NewInt(1), new(big.Int), x.d}
		for n := 1; n <= api.MaxBlock; n++ {
			result = result.times(x)
			root := new(big.Int).Mul(result.b, result.b)
			root.Sqrt(root.Mul(root, x.d))
			if result.b.Sign() < 0 {
				root.Not(root)
			}
			below := root.Add(root, result.a)
			for _, m := range []*big.Int{below, new(big.Int).Add(below, big.NewInt(1)), big.NewInt(r.Int63n(100)), new(big.Int)} {
				if m.Sign() < 0 {
					continue
				}
				want := surd{new(big.Int).Sub(result.a, m), result.b, x.d}.sign()
				if s := power(t, a, n, m); s != want {
					t.Fatalf("P6.6: the power %d of %s, compared with %s: %d, not %d", n, text(a), m, s, want)
				}
			}
		}
	}
}

// P6.6: any numbers that are not negative, against the definition.
func TestPowers(t *testing.T) {
	r := rand.New(rand.NewSource(62))
	for _, x := range reals(t, 63, 120, 6) {
		if spotOf(x).compare(new(big.Rat)) < 0 {
			continue
		}
		for range 2 {
			n, m := 1+r.Intn(api.MaxBlock), r.Int63n(1<<r.Intn(20))
			if s := power(t, x, n, big.NewInt(m)); s != spotOf(x).sign(value(unity(n, m))) {
				t.Fatalf("P6.6: the power %d of %s, compared with %d: %d", n, text(x), m, s)
			}
		}
	}
}

// P6.6: comparing a^n with m and a^(2 n) with m^2 have the same result.
func TestSquaresOfPowers(t *testing.T) {
	r := rand.New(rand.NewSource(64))
	for _, x := range append(reals(t, 65, 120, 6), greatest(t, unity(3, 5)), greatest(t, unity(8, 3))) {
		if compareRat(t, x, new(big.Rat)) < 0 {
			continue
		}
		for n := 1; n <= api.MaxBlock/2; n++ {
			for _, m := range []*big.Int{big.NewInt(r.Int63n(30)), new(big.Int).Exp(floor(t, x), big.NewInt(int64(n)), nil), big.NewInt(5), big.NewInt(3)} {
				if s, u := power(t, x, n, m), power(t, x, 2*n, new(big.Int).Mul(m, m)); s != u {
					t.Fatalf("P6.6: the power %d of %s, compared with %s: %d; the square of both: %d", n, text(x), m, s, u)
				}
			}
			if n > 3 {
				n++
			}
		}
	}
}

// P6.6: integers are their own powers, and roots have powers that are equal to integers.
func TestEqualPowers(t *testing.T) {
	for m := range int64(12) {
		for n := 1; n <= api.MaxBlock; n++ {
			exact := new(big.Int).Exp(big.NewInt(m), big.NewInt(int64(n)), nil)
			list := []api.Real{algebraic.Of(ratio(m, 1)), realIn(big.NewRat(-1, 3), big.NewRat(100, 3), of(-m, 1))}
			if m > 0 {
				list = append(list, realIn(new(big.Rat), big.NewRat(m, 1), of(-m*m, 0, 1)), realIn(new(big.Rat), big.NewRat(2*m, 1), of(-m*m, 0, 1)))
			}
			for _, x := range list {
				above := new(big.Int).Add(exact, big.NewInt(1))
				if s, u := power(t, x, n, exact), power(t, x, n, above); s != 0 || u != -1 {
					t.Errorf("P6.6: the power %d of %s, compared with %s: %d, and with one more: %d", n, text(x), exact, s, u)
				}
				if m > 0 && power(t, x, n, new(big.Int).Sub(exact, big.NewInt(1))) != 1 {
					t.Errorf("P6.6: the power %d of %s, compared with one less than %s", n, text(x), exact)
				}
			}
			if m > 1 {
				root := greatest(t, unity(n, m))
				if s := power(t, root, n, big.NewInt(m)); s != 0 {
					t.Errorf("P6.6: the power %d of %s: %d", n, text(root), s)
				}
				if n > 1 && (power(t, root, n-1, big.NewInt(m)) != -1 || n < api.MaxBlock && power(t, root, n+1, big.NewInt(m)) != 1) {
					t.Errorf("P6.6: the powers %d and %d of %s, compared with %d", n-1, n+1, text(root), m)
				}
			}
		}
	}
}

// P6.6: known powers, at 0, below and above 1, and of long numbers.
func TestKnownPowers(t *testing.T) {
	long := new(big.Int).Lsh(big.NewInt(1), 500)
	zero, third := realOf(-1, 1, 0, 1), realIn(new(big.Rat), big.NewRat(1, 3), of(-1, 3))
	for _, c := range []struct {
		x    api.Real
		n    int
		m    *big.Int
		want int
	}{
		{zero, 1, big.NewInt(0), 0}, {zero, api.MaxBlock, big.NewInt(0), 0}, {zero, 1, big.NewInt(1), -1}, {zero, 3, long, -1}, {realOf(-1, 0, 0, 1), 2, big.NewInt(0), 0},
		{third, 1, big.NewInt(0), 1}, {third, api.MaxBlock, big.NewInt(0), 1}, {third, 1, big.NewInt(1), -1}, {third, api.MaxBlock, big.NewInt(1), -1},
		{realOf(1, 2, -2, 0, 1), api.MaxBlock, big.NewInt(256), 0}, {realOf(1, 2, -2, 0, 1), api.MaxBlock, big.NewInt(257), -1}, {realOf(1, 2, -2, 0, 1), api.MaxBlock - 1, big.NewInt(181), 1}, {realOf(1, 2, -2, 0, 1), api.MaxBlock - 1, big.NewInt(182), -1},
		{realOf(1, 2, -1, -1, 1), 3, big.NewInt(4), 1}, {realOf(1, 2, -1, -1, 1), 4, big.NewInt(8), -1}, {realOf(1, 2, -1, -1, 1), api.MaxBlock, big.NewInt(2206), 1}, {realOf(1, 2, -1, -1, 1), api.MaxBlock, big.NewInt(2207), -1},
		{algebraic.Of(api.Rat{Num: whole(long), Den: of(1)[0]}), api.MaxBlock, new(big.Int).Lsh(big.NewInt(1), 8000), 0}, {algebraic.Of(api.Rat{Num: whole(long), Den: of(1)[0]}), api.MaxBlock, new(big.Int).Sub(new(big.Int).Lsh(big.NewInt(1), 8000), big.NewInt(1)), 1}, {realOf(1, 2, -2, 0, 1), 2, long, -1},
		{algebraic.Of(api.Rat{Num: of(3)[0], Den: whole(long)}), 2, big.NewInt(0), 1},
	} {
		if s := power(t, c.x, c.n, c.m); s != c.want {
			t.Errorf("P6.6: the power %d of %s, compared with %s: %d, not %d", c.n, text(c.x), c.m, s, c.want)
		}
	}
}
