package integer_test

import (
	"math/big"
	"testing"

	"groove/api"
	"groove/integer"
)

// sign returns the sign of a.
func sign(a api.Int) int {
	return value(a).Sign()
}

// P1.8: Compare is a total order that agrees with differences, and Neg reverses it.
func TestOrder(t *testing.T) {
	pairs(13, 20000, func(a, b api.Int) {
		c := integer.Compare(a, b)
		if c != sign(integer.Sub(a, b)) || c != -integer.Compare(b, a) || c != integer.Compare(integer.Neg(b), integer.Neg(a)) {
			t.Fatalf("P1.8: Compare %#v and %#v: %d", a, b, c)
		}
		if (c == 0) != (canonical(value(a)) == canonical(value(b))) || integer.Compare(a, a) != 0 {
			t.Fatalf("P1.8: Compare %#v and %#v: %d", a, b, c)
		}
	})
	list := samples(14, 30)
	for _, a := range list {
		for _, b := range list {
			for _, c := range list {
				if integer.Compare(a, b) <= 0 && integer.Compare(b, c) <= 0 && integer.Compare(a, c) > 0 {
					t.Fatalf("P1.8: %#v, %#v and %#v are not in order", a, b, c)
				}
			}
		}
	}
}

// P1.8: integers that are not canonical are compared by their values.
func TestOrderOfValues(t *testing.T) {
	for _, c := range []struct {
		a, b  api.Int
		order int
	}{
		{api.Int{Neg: true}, api.Int{}, 0}, {api.Int{Mag: "\x00"}, api.Int{Neg: true, Mag: "\x00\x00"}, 0}, {api.Int{Neg: true, Mag: "\x00"}, integer.Of(-1), 1}, {api.Int{Neg: true}, integer.Of(1), -1},
		{api.Int{Mag: "\x00\x00\x00\x05"}, integer.Of(5), 0}, {api.Int{Mag: "\x00\x00\x00\x05"}, integer.Of(256), -1}, {api.Int{Neg: true, Mag: "\x00\x00\x00\x05"}, integer.Of(-256), 1}, {integer.Of(-5), integer.Of(5), -1},
		{twoTo(64, 0), twoTo(63, 0), 1}, {integer.Neg(twoTo(64, 0)), integer.Neg(twoTo(63, 0)), -1}, {integer.Of(256), integer.Of(255), 1}, {integer.Of(-256), integer.Of(-255), -1},
	} {
		if order := integer.Compare(c.a, c.b); order != c.order {
			t.Errorf("P1.8: Compare %#v and %#v: %d", c.a, c.b, order)
		}
	}
}

// P1.8: an integer with n bits is at least 2^(n - 1), and less than 2^n, in absolute value.
func TestBits(t *testing.T) {
	one := big.NewInt(1)
	for _, a := range samples(15, 2000) {
		n := integer.Bits(a)
		if sign(a) == 0 {
			if n != 0 {
				t.Fatalf("P1.8: the bits of %#v: %d", a, n)
			}
			continue
		}
		if n < 1 || value(a).CmpAbs(new(big.Int).Lsh(one, uint(n-1))) < 0 || value(a).CmpAbs(new(big.Int).Lsh(one, uint(n))) >= 0 {
			t.Fatalf("P1.8: the bits of %#v: %d", a, n)
		}
	}
	for n := range uint(300) {
		if k := integer.Bits(twoTo(n, 0)); k != int(n)+1 {
			t.Fatalf("P1.8: the bits of 2^%d: %d", n, k)
		}
		if k := integer.Bits(integer.Neg(twoTo(n, -1))); k != int(n) {
			t.Fatalf("P1.8: the bits of 1 - 2^%d: %d", n, k)
		}
	}
}
