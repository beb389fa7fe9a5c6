package sturm_test

import (
	"math/big"
	"math/rand"
	"testing"

	"groove/api"
	"groove/polynomial"
	"groove/sturm"
)

// halve returns what is left of an interval, by the definition; p has no multiple roots, and one in the interval.
func halve(p []*big.Rat, i api.Interval, width *big.Rat) api.Interval {
	a, b := quantity(i.Low), quantity(i.High)
	for new(big.Rat).Sub(b, a).Cmp(width) > 0 {
		if middle := half(a, b); rootsIn(p, a, middle) == 1 {
			b = middle
		} else {
			a = middle
		}
	}
	return span(number(a), number(b))
}

// checkRefined checks what is left of an interval of p with one root, by the definition and by the promise.
func checkRefined(t *testing.T, p []api.Int, i api.Interval, width *big.Rat) {
	t.Helper()
	x := refine(t, p, i, width)
	if want := halve(simple(value(p)), i, width); x != want {
		t.Fatalf("P5.7: %s from %s, refined to %s: %s, not %s", polynomial.Print(p), text(i), width, text(x), text(want))
	}
	a, b := quantity(x.Low), quantity(x.High)
	wide := new(big.Rat).Sub(b, a)
	if a.Cmp(quantity(i.Low)) < 0 || b.Cmp(quantity(i.High)) > 0 || wide.Cmp(width) > 0 || count(t, p, a, b) != 1 {
		t.Fatalf("P5.7: %s from %s, refined to %s: %s", polynomial.Print(p), text(i), width, text(x))
	}
	if x != i && new(big.Rat).Add(wide, wide).Cmp(width) <= 0 {
		t.Fatalf("P5.7: %s from %s, refined to %s, is too narrow: %s", polynomial.Print(p), text(i), width, text(x))
	}
}

// P5.7: the intervals of Isolate, and others with one root, refined to all kinds of widths.
func TestRefine(t *testing.T) {
	r := rand.New(rand.NewSource(71))
	for _, p := range samples(72, 100, 8) {
		list := isolate(t, p)
		for range 6 {
			if a, b := ends(r); a.Cmp(b) < 0 && count(t, p, a, b) == 1 {
				list = append(list, span(number(a), number(b)))
			}
		}
		for _, i := range list {
			wide := new(big.Rat).Sub(quantity(i.High), quantity(i.Low))
			for _, width := range []*big.Rat{
				big.NewRat(1+r.Int63n(9), 1), big.NewRat(1, 1+r.Int63n(9)), big.NewRat(1+r.Int63n(20), 1+r.Int63n(2000)),
				wide, half(wide, new(big.Rat)), new(big.Rat).Mul(wide, big.NewRat(1, 8)), new(big.Rat).Mul(wide, big.NewRat(101, 800)), new(big.Rat).Mul(wide, big.NewRat(99, 800)), new(big.Rat).Mul(wide, big.NewRat(3, 1)),
			} {
				checkRefined(t, p, i, width)
			}
		}
	}
}

// P5.7: known results.
func TestKnownRefine(t *testing.T) {
	cubic := of(0, -1, 0, 1)
	for _, c := range []struct {
		p           []api.Int
		a, b, width api.Rat
		want        string
	}{
		// Widths at which the next halving is needed, and is not.
		{of(-2, 0, 1), ratio(0, 1), ratio(4, 1), ratio(5, 1), "0 to 4"}, {of(-2, 0, 1), ratio(0, 1), ratio(4, 1), ratio(4, 1), "0 to 4"}, {of(-2, 0, 1), ratio(0, 1), ratio(4, 1), ratio(399, 100), "0 to 2"}, {of(-2, 0, 1), ratio(0, 1), ratio(4, 1), ratio(2, 1), "0 to 2"}, {of(-2, 0, 1), ratio(0, 1), ratio(4, 1), ratio(199, 100), "1 to 2"}, {of(-2, 0, 1), ratio(0, 1), ratio(4, 1), ratio(1, 1), "1 to 2"}, {of(-2, 0, 1), ratio(0, 1), ratio(4, 1), ratio(1, 2), "1 to 3/2"}, {of(-2, 0, 1), ratio(0, 1), ratio(4, 1), ratio(1, 3), "5/4 to 3/2"},
		{of(-2, 0, 1), ratio(-4, 1), ratio(0, 1), ratio(1, 2), "-3/2 to -1"}, {of(4, 0, -2), ratio(-4, 1), ratio(0, 1), ratio(1, 2), "-3/2 to -1"},
		// A root in a middle belongs to the lower half, and then it is High for good.
		{cubic, ratio(0, 1), ratio(2, 1), ratio(1, 1), "0 to 1"}, {cubic, ratio(0, 1), ratio(2, 1), ratio(1, 8), "7/8 to 1"}, {cubic, ratio(1, 2), ratio(3, 2), ratio(1, 2), "1/2 to 1"}, {of(0, 5), ratio(-8, 1), ratio(8, 1), ratio(1, 1), "-1 to 0"},
		// Roots at High, and others at Low, which do not count.
		{cubic, ratio(0, 1), ratio(1, 1), ratio(1, 4), "3/4 to 1"}, {cubic, ratio(-1, 1), ratio(0, 1), ratio(1, 4), "-1/4 to 0"}, {cubic, ratio(-1, 1), ratio(1, 2), ratio(1, 2), "-1/4 to 1/8"}, {cubic, ratio(0, 1), ratio(9, 1), ratio(2, 1), "0 to 9/8"},
		// Repeated roots, where the polynomial does not change its sign.
		{of(1, -2, 1), ratio(0, 1), ratio(3, 1), ratio(1, 1), "3/4 to 3/2"}, {of(-1, 2, -1), ratio(0, 1), ratio(4, 1), ratio(1, 1), "0 to 1"}, {of(4, 0, -4, 0, 1), ratio(0, 1), ratio(4, 1), ratio(1, 2), "1 to 3/2"}, {monomial(-4, 6), ratio(-1, 1), ratio(2, 1), ratio(1, 1), "-1/4 to 1/2"},
		// Ends with different Den, and those of long intervals.
		{of(-1, 2), ratio(1, 3), ratio(3, 5), ratio(1, 10), "7/15 to 8/15"}, {of(-1, 2), ratio(-5, 6), ratio(3, 4), ratio(1, 2), "17/48 to 3/4"}, {of(-1, 0, 0, 1), ratio(-1000, 1), ratio(24, 1), ratio(4, 1), "0 to 4"},
	} {
		if x := refine(t, c.p, span(c.a, c.b), quantity(c.width)); text(x) != c.want {
			t.Errorf("P5.7: %s from %s to %s, refined to %s: %s, not %s", polynomial.Print(c.p), quantity(c.a), quantity(c.b), quantity(c.width), text(x), c.want)
		}
	}
}

// P5.7: further errors, in their order.
func TestRefineErrors(t *testing.T) {
	tiny := number(new(big.Rat).SetFrac(big.NewInt(1), new(big.Int).Lsh(big.NewInt(1), api.MaxPower+10)))
	cubic := of(0, -1, 0, 1)
	for _, c := range []struct {
		p           []api.Int
		a, b, width api.Rat
		want        api.Errno
	}{
		// The order of the bounds comes before the width, this before the roots, and these before the number of halvings.
		{of(-2, 0, 1), ratio(4, 1), ratio(0, 1), ratio(0, 1), api.ErrOrder}, {of(-2, 0, 1), ratio(4, 1), ratio(4, 1), ratio(-1, 1), api.ErrOrder}, {of(-2, 0, 1), ratio(4, 1), ratio(0, 1), tiny, api.ErrOrder},
		{of(-2, 0, 1), ratio(0, 1), ratio(4, 1), ratio(0, 1), api.ErrRange}, {of(-2, 0, 1), ratio(0, 1), ratio(4, 1), ratio(-1, 2), api.ErrRange}, {of(-2, 0, 1), ratio(-4, 1), ratio(4, 1), ratio(-9, 1), api.ErrRange}, {of(-2, 0, 1), ratio(2, 1), ratio(4, 1), ratio(0, 1), api.ErrRange}, {of(3), ratio(2, 1), ratio(4, 1), ratio(0, 1), api.ErrRange},
		{of(-2, 0, 1), ratio(-4, 1), ratio(4, 1), tiny, api.ErrRoot}, {of(-2, 0, 1), ratio(2, 1), ratio(4, 1), tiny, api.ErrRoot}, {of(-2, 0, 1), ratio(0, 1), ratio(4, 1), tiny, api.ErrLimit},
		// No root, and more than one; it does not matter that the interval is narrow enough.
		{of(3), ratio(-4, 1), ratio(4, 1), ratio(1, 1), api.ErrRoot}, {of(1, 0, 1), ratio(-4, 1), ratio(4, 1), ratio(1, 1), api.ErrRoot}, {of(-2, 0, 1), ratio(2, 1), ratio(4, 1), ratio(9, 1), api.ErrRoot}, {of(-2, 0, 1), ratio(-4, 1), ratio(4, 1), ratio(9, 1), api.ErrRoot},
		{cubic, ratio(-2, 1), ratio(2, 1), ratio(1, 1), api.ErrRoot}, {cubic, ratio(-1, 1), ratio(1, 1), ratio(1, 1), api.ErrRoot}, {cubic, ratio(-2, 1), ratio(0, 1), ratio(1, 1), api.ErrRoot},
		// A root at Low does not count.
		{cubic, ratio(1, 1), ratio(2, 1), ratio(1, 1), api.ErrRoot}, {cubic, ratio(0, 1), ratio(1, 2), ratio(1, 1), api.ErrRoot}, {cubic, ratio(0, 1), ratio(1, 1), ratio(1, 1), api.OK}, {of(1, -2, 1), ratio(1, 1), ratio(2, 1), ratio(1, 1), api.ErrRoot},
		// A root that is repeated is one.
		{of(1, -2, 1), ratio(0, 1), ratio(2, 1), ratio(1, 1), api.OK}, {monomial(1, api.MaxDegree), ratio(-1, 1), ratio(2, 1), ratio(1, 1), api.OK},
	} {
		if x, e := sturm.Refine(c.p, span(c.a, c.b), c.width); e != c.want || e != api.OK && x != (api.Interval{}) {
			t.Errorf("P5.7: %s from %s to %s, refined: %v, %d, not %d", polynomial.Print(c.p), quantity(c.a), quantity(c.b), x, e, c.want)
		}
	}
}

// P5.7: as many halvings as are allowed, and one more.
func TestManyHalvings(t *testing.T) {
	scale := new(big.Int).Lsh(big.NewInt(1), api.MaxPower)
	for _, c := range []struct {
		p    []api.Int
		a, b *big.Rat
	}{
		{of(-2, 0, 1), big.NewRat(0, 1), big.NewRat(4, 1)}, {of(-1, 3), big.NewRat(-1, 3), big.NewRat(1, 2)}, {of(-1, 1), big.NewRat(0, 1), big.NewRat(1, 1)}, {of(0, -2), big.NewRat(-1, 1), big.NewRat(6, 1)},
	} {
		wide := new(big.Rat).Sub(c.b, c.a)
		last := new(big.Rat).Quo(wide, new(big.Rat).SetInt(scale))
		before := new(big.Rat).Add(last, last)
		i := span(number(c.a), number(c.b))
		x := refine(t, c.p, i, last)
		low, high := quantity(x.Low), quantity(x.High)
		if new(big.Rat).Sub(high, low).Cmp(last) != 0 || low.Cmp(c.a) < 0 || high.Cmp(c.b) > 0 || rootsIn(value(c.p), low, high) != 1 {
			t.Errorf("P5.7: %s from %s, after %d halvings", polynomial.Print(c.p), text(i), api.MaxPower)
		}
		// A width just below that before takes as many halvings, too.
		if y := refine(t, c.p, i, new(big.Rat).Mul(before, big.NewRat(999, 1000))); y != x {
			t.Errorf("P5.7: %s from %s: other intervals after %d halvings", polynomial.Print(c.p), text(i), api.MaxPower)
		}
		for _, width := range []*big.Rat{new(big.Rat).Mul(last, big.NewRat(999999, 1000000)), half(last, new(big.Rat)), new(big.Rat).Mul(last, last)} {
			if y, e := sturm.Refine(c.p, i, number(width)); e != api.ErrLimit || y != (api.Interval{}) {
				t.Errorf("P5.7: %s from %s, with more than %d halvings: %d", polynomial.Print(c.p), text(i), api.MaxPower, e)
			}
		}
	}
	// What counts is the quotient of the widths, not either of them.
	wide := span(ratio(0, 1), api.Rat{Num: whole(scale), Den: of(1)[0]})
	if x := refine(t, of(-3, 1), wide, big.NewRat(1, 1)); text(x) != "2 to 3" {
		t.Errorf("P5.7: x - 3 after %d halvings: %s", api.MaxPower, text(x))
	}
	if _, e := sturm.Refine(of(-3, 1), wide, ratio(1, 2)); e != api.ErrLimit {
		t.Errorf("P5.7: x - 3 after %d halvings: %d", api.MaxPower+1, e)
	}
}

// P5.7: roots of polynomials of the greatest degree.
func TestRefineLong(t *testing.T) {
	p := polynomial.Sub(monomial(1, api.MaxDegree), of(2))
	for _, i := range isolate(t, p) {
		x := refine(t, p, i, big.NewRat(1, 1<<30))
		a, b := valueAt(value(p), quantity(x.Low)), valueAt(value(p), quantity(x.High))
		if a.Sign()*b.Sign() >= 0 || new(big.Rat).Sub(quantity(x.High), quantity(x.Low)).Cmp(big.NewRat(1, 1<<30)) != 0 {
			t.Errorf("P5.7: %s from %s, refined: %s", polynomial.Print(p), text(i), text(x))
		}
	}
	// Both roots are repeated.
	q := power(t, of(-1, -1, 1), api.MaxDegree/2)
	if x := refine(t, q, span(ratio(1, 1), ratio(2, 1)), big.NewRat(1, 1000)); text(x) != "207/128 to 1657/1024" {
		t.Errorf("P5.7: the golden ratio: %s", text(x))
	}
}
