package algebraic_test

import (
	"math/big"
	"math/rand"
	"slices"
	"testing"

	"groove/algebraic"
	"groove/api"
	"groove/polynomial"
	"groove/sturm"
)

// P6.4: any polynomials, against the functions that define the result; and there is none exactly if there are no roots.
func TestGreatest(t *testing.T) {
	r := rand.New(rand.NewSource(41))
	for range 1500 {
		p := random(r, 8)
		if r.Intn(3) == 0 {
			factor := random(r, 3)
			p = product(t, p, factor, factor)
		}
		simple := simplified(t, p)
		parts, e := sturm.Isolate(simple)
		if e != api.OK {
			t.Fatalf("the intervals of %s: %d", polynomial.Print(simple), e)
		}
		x, e := algebraic.Greatest(p)
		if len(parts) == 0 {
			if e != api.ErrRoot || !same(x, api.Real{}) {
				t.Fatalf("P6.4: the greatest root of %s: %v, %d", polynomial.Print(p), x, e)
			}
			continue
		}
		if want := (api.Real{Poly: simple, In: parts[len(parts)-1]}); e != api.OK || !same(x, want) {
			t.Fatalf("P6.4: the greatest root of %s: %v, not %v, %d", polynomial.Print(p), x, want, e)
		}
	}
}

// P6.4: a polynomial is 0 at its greatest root; above it, it has the sign of its leading coefficient, and no further root.
func TestAboveGreatest(t *testing.T) {
	r := rand.New(rand.NewSource(42))
	for range 200 {
		p := random(r, 7)
		if r.Intn(2) == 0 {
			p = product(t, p, linear(place(r)), linear(place(r)))
		}
		x, e := algebraic.Greatest(p)
		if e == api.ErrRoot {
			continue
		}
		if e != api.OK || algebraic.Check(x) != api.OK {
			t.Fatalf("P6.4: the greatest root of %s: %v, %d", polynomial.Print(p), x, e)
		}
		if sign(t, p, x) != 0 {
			t.Fatalf("P6.4: %s is not 0 at its greatest root", polynomial.Print(p))
		}
		lead := size(p[len(p)-1]).Sign()
		for i := range 12 {
			// From one above the root on, down to very near ones.
			above := digits(t, x, 2*i)
			unit := new(big.Rat).SetFrac(big.NewInt(1), new(big.Int).Exp(big.NewInt(10), big.NewInt(int64(2*i)), nil))
			if valueAt(value(p), above.Add(above, unit)).Sign() != lead {
				t.Fatalf("P6.4: the sign of %s at %s, above its greatest root", polynomial.Print(p), above)
			}
		}
		for range 4 {
			at := place(r)
			if compareRat(t, x, at) < 0 && valueAt(value(p), at).Sign() != lead {
				t.Fatalf("P6.4: the sign of %s at %s, above its greatest root", polynomial.Print(p), at)
			}
		}
	}
}

// P6.4: the greatest root of a product of linear polynomials is the greatest of their roots; factors without roots, common divisors and negative leading coefficients change nothing.
func TestGreatestOfRoots(t *testing.T) {
	r := rand.New(rand.NewSource(43))
	for range 300 {
		p := of([]int64{1, -1, 6, -10}[r.Intn(4)])
		var list []*big.Rat
		for range 1 + r.Intn(5) {
			root := place(r)
			list = append(list, root)
			for range 1 + r.Intn(3) {
				p = product(t, p, linear(root))
			}
		}
		if r.Intn(3) == 0 {
			p = product(t, p, of(1, 0, 1+r.Int63n(3)), of(-2, 1, -1))
		}
		most := slices.MaxFunc(list, (*big.Rat).Cmp)
		x := greatest(t, p)
		if n := compareRat(t, x, most); n != 0 {
			t.Fatalf("P6.4: the greatest root of %s, compared with %s: %d", polynomial.Print(p), most, n)
		}
		if n := compare(t, algebraic.Of(number(most)), x); n != 0 {
			t.Fatalf("P6.4: %s, compared with the greatest root of %s: %d", most, polynomial.Print(p), n)
		}
	}
}

// P6.4: known roots, with the intervals that the chapter demands.
func TestKnownGreatest(t *testing.T) {
	for _, c := range []struct {
		p         []api.Int
		simple    []api.Int
		low, high int64
	}{
		// The intervals begin with the bounds of the square-free polynomials, not with those of the polynomials.
		{of(-1, -1, 1), of(-1, -1, 1), 0, 4}, {of(0, 1), of(0, 1), -2, 2}, {of(0, -7), of(0, 1), -2, 2}, {monomial(-4, 9), of(0, 1), -2, 2}, {of(-6, 3), of(-2, 1), -4, 4}, {of(-6, 2), of(-3, 1), -8, 8}, {of(9, -6, 1), of(-3, 1), -8, 8}, {of(-1, 3, -3, 1), of(-1, 1), -4, 4}, {of(-8, 12, -6, 1), of(-2, 1), -4, 4},
		{of(-1, 0, 1), of(-1, 0, 1), 0, 4}, {of(1, 0, -1), of(-1, 0, 1), 0, 4}, {of(1, 0, -2, 0, 1), of(-1, 0, 1), 0, 4}, {of(0, -1, 0, 1), of(0, -1, 0, 1), 0, 4}, {of(0, 1, 1), of(0, 1, 1), -1, 0}, {of(2, 3, 1), of(2, 3, 1), -2, 0},
		{of(2, -3, 1), of(2, -3, 1), 1, 2}, {of(6, -5, 1), of(6, -5, 1), 2, 4}, {of(4, 0, -4, 0, 1), of(-2, 0, 1), 0, 4}, {of(0, 0, -12, 0, 6), of(0, -2, 0, 1), 0, 4}, {of(2, 1), of(2, 1), -4, 4}, {of(-1, 1, 0, 1), of(-1, 1, 0, 1), -4, 4},
		{of(-10, 0, 1), of(-10, 0, 1), 0, 16}, {unity(api.MaxDegree, 2), unity(api.MaxDegree, 2), 0, 4}, {monomial(3, api.MaxDegree), of(0, 1), -2, 2},
	} {
		want := realIn(big.NewRat(c.low, 1), big.NewRat(c.high, 1), c.simple)
		if x, e := algebraic.Greatest(c.p); e != api.OK || !same(x, want) {
			t.Errorf("P6.4: the greatest root of %s: %v, %d; not %s", polynomial.Print(c.p), x, e, text(want))
		}
	}
}

// P6.4: many roots, which lie close together.
func TestGreatestOfMany(t *testing.T) {
	p := of(-3)
	for i := range int64(24) {
		p = product(t, p, of(-i-1, 24))
	}
	if x := greatest(t, p); compareRat(t, x, big.NewRat(1, 1)) != 0 || compareRat(t, x, big.NewRat(23, 24)) != 1 || digits(t, x, 30).Cmp(big.NewRat(1, 1)) != 0 {
		t.Errorf("P6.4: the greatest of many roots: %s", text(x))
	}
}

// P6.4: what has no greatest root, and the order of the errors.
func TestGreatestErrors(t *testing.T) {
	check := func(p []api.Int, want api.Errno) {
		t.Helper()
		if x, e := algebraic.Greatest(p); e != want || !same(x, api.Real{}) {
			t.Errorf("P6.4: the greatest root of %v: %v, %d, not %d", p, x, e, want)
		}
	}
	for _, p := range append(notLists(), nil, []api.Int{}) {
		check(p, api.ErrArgument)
	}
	for _, p := range [][]api.Int{monomial(1, api.MaxDegree+1), monomial(-2, api.MaxDegree+1), unity(api.MaxDegree+1, 1), unity(api.MaxDegree+2, -1), monomial(1, 3000)} {
		check(p, api.ErrLimit)
	}
	for _, p := range [][]api.Int{of(1), of(-1), of(5), of(-256), of(1, 0, 1), of(-1, 0, -1), of(3, 1, 1), of(1, 0, 2, 0, 1), of(-5, 1, -1), of(1, 0, 0, 0, 1), unity(api.MaxDegree, -1), unity(api.MaxDegree, -300)} {
		check(p, api.ErrRoot)
	}
}
