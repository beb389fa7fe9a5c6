package sturm_test

import (
	"math/big"
	"math/rand"
	"testing"

	"groove/api"
	"groove/polynomial"
	"groove/sturm"
)

// within returns how many different numbers of a list are greater than a, and at most b.
func within(list []*big.Rat, a, b *big.Rat) int {
	seen := map[string]bool{}
	for _, x := range list {
		if x.Cmp(a) > 0 && x.Cmp(b) <= 0 {
			seen[x.RatString()] = true
		}
	}
	return len(seen)
}

// P5.2: the roots of products of linear polynomials, some of them repeated, with factors without roots, common divisors of the coefficients and negative leading coefficients. Bounds are often roots.
func TestKnownRoots(t *testing.T) {
	r := rand.New(rand.NewSource(21))
	for range 500 {
		p := of([]int64{1, -1, 6, -10}[r.Intn(4)])
		var list []*big.Rat
		for range r.Intn(6) {
			root := place(r)
			list = append(list, root)
			p = product(t, p, power(t, linear(root), 1+r.Intn(3)))
		}
		if r.Intn(3) == 0 {
			p = product(t, p, of(1, 0, 1+r.Int63n(3)), of(-2, 1, -1))
		}
		for range 8 {
			a, b := place(r), place(r)
			if len(list) > 0 && r.Intn(2) == 0 {
				a = list[r.Intn(len(list))]
			}
			if len(list) > 0 && r.Intn(2) == 0 {
				b = list[r.Intn(len(list))]
			}
			if a.Cmp(b) > 0 {
				a, b = b, a
			}
			if n := count(t, p, a, b); n != within(list, a, b) {
				t.Fatalf("P5.2: the roots of %s from %s to %s: %d", polynomial.Print(p), a, b, n)
			}
		}
		if n := roots(t, p); n != within(list, big.NewRat(-100, 1), big.NewRat(100, 1)) {
			t.Fatalf("P5.2: the roots of %s: %d", polynomial.Print(p), n)
		}
	}
}

// P5.2: small polynomials, with all kinds of ends.
func TestRootsAtEnds(t *testing.T) {
	for _, c := range []struct {
		p    []api.Int
		a, b *big.Rat
		want int
	}{
		// A root at Low does not count, one at High does.
		{of(0, -1, 0, 1), big.NewRat(-1, 1), big.NewRat(1, 1), 2}, {of(0, -1, 0, 1), big.NewRat(-1, 1), big.NewRat(0, 1), 1}, {of(0, -1, 0, 1), big.NewRat(0, 1), big.NewRat(1, 1), 1}, {of(0, -1, 0, 1), big.NewRat(0, 1), big.NewRat(1, 2), 0}, {of(0, -1, 0, 1), big.NewRat(-2, 1), big.NewRat(-1, 1), 1}, {of(0, -1, 0, 1), big.NewRat(1, 1), big.NewRat(9, 1), 0}, {of(0, -1, 0, 1), big.NewRat(-9, 1), big.NewRat(9, 1), 3},
		{of(0, 2), big.NewRat(-1, 1), big.NewRat(0, 1), 1}, {of(0, -2), big.NewRat(0, 1), big.NewRat(1, 1), 0}, {of(1, -3), big.NewRat(0, 1), big.NewRat(1, 3), 1}, {of(1, -3), big.NewRat(1, 3), big.NewRat(1, 1), 0},
		// Repeated roots.
		{of(1, -2, 1), big.NewRat(0, 1), big.NewRat(1, 1), 1}, {of(1, -2, 1), big.NewRat(1, 1), big.NewRat(2, 1), 0}, {of(-1, 2, -1), big.NewRat(1, 2), big.NewRat(3, 2), 1}, {monomial(-2, 8), big.NewRat(-1, 1), big.NewRat(1, 1), 1}, {monomial(-2, 8), big.NewRat(0, 1), big.NewRat(1, 1), 0}, {monomial(-2, 8), big.NewRat(-1, 1), big.NewRat(0, 1), 1},
		// Equal bounds, roots or not.
		{of(0, -1, 0, 1), big.NewRat(1, 1), big.NewRat(1, 1), 0}, {of(0, -1, 0, 1), big.NewRat(0, 1), big.NewRat(0, 1), 0}, {of(0, -1, 0, 1), big.NewRat(1, 2), big.NewRat(1, 2), 0}, {of(1, -2, 1), big.NewRat(1, 1), big.NewRat(1, 1), 0},
		// Constants, and no roots.
		{of(7), big.NewRat(-9, 1), big.NewRat(9, 1), 0}, {of(-1), big.NewRat(-9, 1), big.NewRat(9, 1), 0}, {of(1, 0, 1), big.NewRat(-9, 1), big.NewRat(9, 1), 0}, {of(-5, 1, -1), big.NewRat(-9, 1), big.NewRat(9, 1), 0},
		// Roots that are not rational, and other elements of the chain that are 0 at a bound.
		{of(-2, 0, 1), big.NewRat(0, 1), big.NewRat(2, 1), 1}, {of(-2, 0, 1), big.NewRat(-2, 1), big.NewRat(0, 1), 1}, {of(-2, 0, 1), big.NewRat(7, 5), big.NewRat(3, 2), 1}, {of(-2, 0, 1), big.NewRat(141421356, 100000000), big.NewRat(141421357, 100000000), 1}, {of(-2, 0, 1), big.NewRat(141421357, 100000000), big.NewRat(2, 1), 0}, {of(-1, 0, 0, 0, 1), big.NewRat(0, 1), big.NewRat(2, 1), 1}, {of(4, 0, -5, 0, 1), big.NewRat(0, 1), big.NewRat(1, 1), 1}, {of(4, 0, -5, 0, 1), big.NewRat(0, 1), big.NewRat(3, 1), 2},
	} {
		if n := count(t, c.p, c.a, c.b); n != c.want {
			t.Errorf("P5.2: the roots of %s from %s to %s: %d, not %d", polynomial.Print(c.p), c.a, c.b, n, c.want)
		}
	}
}

// P5.2: any polynomials, against Descartes' rule of signs.
func TestDescartes(t *testing.T) {
	r := rand.New(rand.NewSource(22))
	for _, p := range samples(23, 700, 9) {
		s := simple(value(p))
		for range 4 {
			a, b := place(r), place(r)
			if a.Cmp(b) > 0 {
				a, b = b, a
			}
			if n := count(t, p, a, b); n != rootsIn(s, a, b) {
				t.Fatalf("P5.2: the roots of %s from %s to %s: %d", polynomial.Print(p), a, b, n)
			}
		}
		far := boundOf(value(p))
		if n := roots(t, p); n != rootsIn(s, new(big.Rat).Neg(far), far) {
			t.Fatalf("P5.2: the roots of %s: %d", polynomial.Print(p), n)
		}
	}
}

// P5.2: the greatest number of roots.
func TestManyRoots(t *testing.T) {
	p := of(-3)
	for i := range int64(api.MaxDegree) {
		p = product(t, p, of(-i-1, 2))
	}
	if n := roots(t, p); n != api.MaxDegree {
		t.Errorf("P5.2: %d roots", n)
	}
	for _, c := range []struct{ a, b, want int64 }{{0, api.MaxDegree, api.MaxDegree}, {10, 20, 10}, {api.MaxDegree - 1, 1000, 1}, {api.MaxDegree, 1000, 0}} {
		if n := count(t, p, big.NewRat(c.a, 2), big.NewRat(c.b, 2)); int64(n) != c.want {
			t.Errorf("P5.2: %d roots from %d/2 to %d/2", n, c.a, c.b)
		}
	}
	// Here each root is repeated.
	q := power(t, product(t, of(-1, 3), of(0, 1), of(2, 1), of(-2, 0, 1), of(7, 1, 1)), api.MaxDegree/8)
	if n := roots(t, q); n != 5 {
		t.Errorf("P5.2: %d roots, each of them %d times", n, api.MaxDegree/8)
	}
}

// P5.3: the roots of successive intervals add up.
func TestSums(t *testing.T) {
	r := rand.New(rand.NewSource(31))
	for _, p := range samples(32, 700, 9) {
		far := bound(t, p)
		ends := []*big.Rat{new(big.Rat).Neg(far), place(r), place(r), place(r), far}
		for i := range ends {
			for j := range i {
				if ends[i].Cmp(ends[j]) < 0 {
					ends[i], ends[j] = ends[j], ends[i]
				}
			}
		}
		sum := 0
		for i, x := range ends[1:] {
			n := count(t, p, ends[i], x)
			if n < 0 {
				t.Fatalf("P5.3: the roots of %s from %s to %s: %d", polynomial.Print(p), ends[i], x, n)
			}
			sum += n
		}
		if n := count(t, p, ends[0], ends[4]); n != sum {
			t.Fatalf("P5.3: the roots of %s from %s to %s: %d, in parts %d", polynomial.Print(p), ends[0], ends[4], n, sum)
		}
	}
}

// P5.3: all roots lie between the opposite of the bound and the bound, neither of which is one.
func TestRootsWithinBound(t *testing.T) {
	for _, p := range samples(33, 700, 9) {
		high := bound(t, p)
		low, far := new(big.Rat).Neg(high), new(big.Rat).Mul(high, big.NewRat(1000003, 1))
		inside := count(t, p, low, high)
		if n := roots(t, p); n != inside || n > len(p)-1 {
			t.Fatalf("P5.3: %s has %d roots, and %d within the bound %s", polynomial.Print(p), n, inside, high)
		}
		if below, above := count(t, p, new(big.Rat).Neg(far), low), count(t, p, high, far); below != 0 || above != 0 {
			t.Fatalf("P5.3: %s has %d roots up to %s, and %d above %s", polynomial.Print(p), below, low, above, high)
		}
		if valueAt(value(p), low).Sign() == 0 || valueAt(value(p), high).Sign() == 0 {
			t.Fatalf("P5.3: %s is 0 at a bound, %s", polynomial.Print(p), high)
		}
	}
}

// P5.3: bounds whose exponents are above MaxPower hold all roots, too.
func TestFarRoots(t *testing.T) {
	far := new(big.Int).Lsh(big.NewInt(3), api.MaxPower+100)
	p := product(t, of(0, 1), []api.Int{whole(far), of(1)[0]}, []api.Int{whole(new(big.Int).Neg(far)), of(7)[0]})
	if n := roots(t, p); n != 3 {
		t.Errorf("P5.3: %d roots", n)
	}
	if n, e := sturm.Count(p, ratio(-1, 1), api.Rat{Num: whole(far), Den: of(1)[0]}); e != api.OK || n != 2 {
		t.Errorf("P5.3: %d roots above -1, %d", n, e)
	}
}
