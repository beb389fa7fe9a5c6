package sturm_test

import (
	"math/big"
	"slices"
	"testing"

	"groove/api"
	"groove/polynomial"
)

// separate appends the parts of the interval from a to b with one root that halving leads to, by the definition; p has no multiple roots.
func separate(p []*big.Rat, a, b *big.Rat, list []api.Interval) []api.Interval {
	switch rootsIn(p, a, b) {
	case 0:
		return list
	case 1:
		return append(list, span(number(a), number(b)))
	}
	middle := half(a, b)
	return separate(p, middle, b, separate(p, a, middle, list))
}

// P5.4: intervals against the definition, with roots that are counted by Descartes' rule of signs.
func TestIntervals(t *testing.T) {
	for _, p := range samples(51, 500, 9) {
		list := value(p)
		far := boundOf(list)
		if l, want := isolate(t, p), separate(simple(list), new(big.Rat).Neg(far), far, nil); !slices.Equal(l, want) {
			t.Fatalf("P5.4: the intervals of %s: %v, not %v", polynomial.Print(p), l, want)
		}
	}
}

// P5.4: the intervals are disjoint, ascending, within the bound, have one root each, and are as many as there are roots.
func TestIsolation(t *testing.T) {
	for _, p := range samples(52, 500, 10) {
		list, high := isolate(t, p), bound(t, p)
		if n := roots(t, p); len(list) != n {
			t.Fatalf("P5.4: %s has %d roots and %d intervals", polynomial.Print(p), n, len(list))
		}
		last := new(big.Rat).Neg(high)
		for _, i := range list {
			a, b := quantity(i.Low), quantity(i.High)
			if a.Cmp(last) < 0 || a.Cmp(b) >= 0 || b.Cmp(high) > 0 {
				t.Fatalf("P5.4: the intervals of %s: %s behind %s, bound %s", polynomial.Print(p), text(i), last, high)
			}
			if n := count(t, p, a, b); n != 1 {
				t.Fatalf("P5.4: %s has %d roots from %s", polynomial.Print(p), n, text(i))
			}
			last = b
		}
	}
}

// P5.4: known intervals.
func TestKnownIntervals(t *testing.T) {
	for _, c := range []struct {
		p    []api.Int
		want []string
	}{
		// No roots.
		{of(5), nil}, {of(-1), nil}, {of(1, 0, 1), nil}, {of(-3, 1, -1), nil},
		// One root: no half is taken, wherever it lies, and however often it is repeated.
		{of(0, 3), []string{"-2 to 2"}}, {of(-1, 1), []string{"-4 to 4"}}, {of(1, -2, 1), []string{"-4 to 4"}}, {of(0, 0, 0, 0, -6), []string{"-2 to 2"}}, {of(-300, 1), []string{"-512 to 512"}},
		// Roots in the middle belong to the lower half.
		{of(0, -1, 1), []string{"-4 to 0", "0 to 4"}}, {of(0, 1, 1), []string{"-2 to -1", "-1 to 0"}}, {of(0, -1, 0, 1), []string{"-2 to -1", "-1 to 0", "0 to 4"}}, {of(0, 0, -1, 0, 1), []string{"-2 to -1", "-1 to 0", "0 to 4"}},
		{of(-2, 0, 1), []string{"-4 to 0", "0 to 4"}}, {of(4, 0, -2), []string{"-4 to 0", "0 to 4"}}, {of(3, -16, 16), []string{"0 to 1/2", "1/2 to 1"}},
		// Halves of different widths, with parts without roots between them.
		{of(2, -3, 1), []string{"0 to 1", "1 to 2"}}, {of(-12, 19, -8, 1), []string{"0 to 2", "2 to 3", "3 to 4"}}, {of(0, -100, 1), []string{"-128 to 0", "0 to 128"}}, {of(99, -100, 1), []string{"0 to 64", "64 to 128"}},
		// The roots 100/101 and 101/102, which are in one part down to the width 1/4096.
		{of(100*101, -100*102-101*101, 101*102), []string{"4055/4096 to 8111/8192", "8111/8192 to 507/512"}},
	} {
		var texts []string
		for _, i := range isolate(t, c.p) {
			texts = append(texts, text(i))
		}
		if !slices.Equal(texts, c.want) {
			t.Errorf("P5.4: the intervals of %s: %q, not %q", polynomial.Print(c.p), texts, c.want)
		}
	}
}

// P5.4: roots so close together that some hundred halvings separate them, with a bound of as many bits.
func TestCloseRoots(t *testing.T) {
	far := new(big.Int).Lsh(big.NewInt(1), 300)
	n := whole(far)
	// 1/n and 2/n, and -n.
	p := product(t, []api.Int{of(-1)[0], n}, []api.Int{of(-2)[0], n}, []api.Int{n, of(1)[0]})
	list := isolate(t, p)
	if len(list) != 3 {
		t.Fatalf("P5.4: %d intervals", len(list))
	}
	first, second := new(big.Rat).SetFrac(big.NewInt(1), far), new(big.Rat).SetFrac(big.NewInt(2), far)
	if b := bound(t, p); quantity(list[0].Low).Cmp(new(big.Rat).Neg(b)) != 0 || list[0].High != ratio(0, 1) {
		t.Errorf("P5.4: the first interval: %s", text(list[0]))
	}
	// The bound is a power of 2, so the roots are where parts end.
	if list[1] != span(ratio(0, 1), number(first)) || list[2] != span(number(first), number(second)) {
		t.Errorf("P5.4: the intervals of close roots: %s and %s", text(list[1]), text(list[2]))
	}
}

// P5.4: the greatest number of roots.
func TestManyIntervals(t *testing.T) {
	p := of(1)
	for i := range int64(api.MaxDegree / 2) {
		p = product(t, p, of(-2-i, 0, 1))
	}
	list := isolate(t, p)
	if len(list) != api.MaxDegree {
		t.Fatalf("P5.4: %d intervals", len(list))
	}
	for at, i := range list {
		// The squares of the roots are 2 to MaxDegree / 2 + 1.
		square := int64(max(api.MaxDegree/2-at, at-api.MaxDegree/2+1)) + 1
		a, b := quantity(i.Low), quantity(i.High)
		low, high := new(big.Rat).Mul(a, a), new(big.Rat).Mul(b, b)
		if at < api.MaxDegree/2 {
			low, high = high, low
		}
		if isAbove, isBelow := low.Cmp(big.NewRat(square, 1)) > 0, high.Cmp(big.NewRat(square, 1)) < 0; isAbove || isBelow || (at < api.MaxDegree/2) != (b.Sign() <= 0) {
			t.Fatalf("P5.4: the interval %d does not have the root of %d: %s", at, square, text(i))
		}
	}
}
