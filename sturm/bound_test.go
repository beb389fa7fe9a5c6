package sturm_test

import (
	"math/big"
	"strings"
	"testing"

	"groove/api"
	"groove/polynomial"
)

// isPower says whether n is a power of 2 with an exponent from 0 on.
func isPower(n *big.Rat) bool {
	return n.IsInt() && n.Sign() > 0 && n.Num().TrailingZeroBits()+1 == uint(n.Num().BitLen())
}

// P5.5: the bound is the least power of 2 that is great enough, and the polynomial has the sign of its leading coefficient there; at the opposite number it has it, too, or the opposite one for odd degrees.
func TestBounds(t *testing.T) {
	for _, p := range samples(41, 2500, 12) {
		b, list := bound(t, p), value(p)
		if !isPower(b) || b.Cmp(boundOf(list)) != 0 {
			t.Fatalf("P5.5: the bound of %s: %s", polynomial.Print(p), b)
		}
		sign := list[len(list)-1].Sign()
		if valueAt(list, b).Sign() != sign || valueAt(list, new(big.Rat).Neg(b)).Sign() != sign*(1-2*((len(list)-1)%2)) {
			t.Fatalf("P5.5: the sign of %s at %s or its opposite", polynomial.Print(p), b)
		}
	}
}

// P5.5: known bounds, on both sides of powers of 2.
func TestKnownBounds(t *testing.T) {
	for _, c := range []struct {
		p    []api.Int
		want int64
	}{
		// Constants, and powers of x.
		{of(1), 2}, {of(-1), 2}, {of(5), 2}, {of(-256), 2}, {of(0, 3), 2}, {of(0, 0, 0, -9), 2},
		// 1 + m / |c| is a power of 2, and not a power of 2.
		{of(1, 1), 4}, {of(-1, 1), 4}, {of(-2, 1), 4}, {of(3, 1), 8}, {of(-3, 1), 8}, {of(6, 1), 8}, {of(7, 1), 16}, {of(-255, 1), 512}, {of(254, 1), 256}, {of(-254, 0, 1), 256}, {of(256, 1), 512},
		// Quotients that are not integers.
		{of(1, 2), 2}, {of(1, -2), 2}, {of(-1, -2), 2}, {of(2, 2), 4}, {of(3, 2), 4}, {of(5, 2), 4}, {of(-5, 2), 4}, {of(5, -2), 4}, {of(6, 2), 8}, {of(6, -2), 8}, {of(7, 2), 8}, {of(999, 1000), 2}, {of(1000, 1000), 4}, {of(2999, -1000), 4}, {of(3000, -1000), 8}, {of(3001, 1000), 8},
		// The greatest coefficient stands anywhere, has any sign, and is not the leading one.
		{of(-2, 0, 1), 4}, {of(-6, 0, 2), 8}, {of(0, -1, 0, 1), 4}, {of(1, -100, 3, 1), 128}, {of(-126, 5, 7, 1), 128}, {of(1, 2, 127, -1), 256}, {of(3, -16, 16), 4}, {of(3, -15, 16), 2}, {of(1, 1, 1, 1000), 2},
	} {
		if b := bound(t, c.p); b.Cmp(big.NewRat(c.want, 1)) != 0 {
			t.Errorf("P5.5: the bound of %s: %s, not %d", polynomial.Print(c.p), b, c.want)
		}
	}
}

// P5.5: bounds of all exponents up to some above MaxPower.
func TestLongBounds(t *testing.T) {
	for n := uint(1); n < api.MaxPower+200; n++ {
		if n > 300 && n < api.MaxPower-20 && n%100 != 0 {
			continue
		}
		least := new(big.Int).Lsh(big.NewInt(1), n)
		// With this coefficient the bound must be greater than 2^n; with one less, 2^n is enough.
		at := new(big.Int).Sub(least, big.NewInt(1))
		below := new(big.Int).Sub(at, big.NewInt(1))
		more, same := bound(t, []api.Int{whole(at), of(1)[0]}), bound(t, []api.Int{whole(below), {}, of(-1)[0]})
		if more.Cmp(new(big.Rat).SetInt(new(big.Int).Add(least, least))) != 0 || same.Cmp(new(big.Rat).SetInt(least)) != 0 {
			t.Fatalf("P5.5: the bounds of 2^%d - 1 + x and 2^%d - 2 - x^2", n, n)
		}
	}
	long := api.Int{Mag: "\x01" + strings.Repeat("\x00", 9000)}
	if b := bound(t, []api.Int{of(-1)[0], long, {}, of(1)[0]}); b.Cmp(new(big.Rat).SetInt(new(big.Int).Lsh(big.NewInt(1), 72001))) != 0 {
		t.Errorf("P5.5: the bound of x^3 + 2^72000*x - 1 has %d bits", b.Num().BitLen())
	}
}
