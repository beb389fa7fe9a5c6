package rational_test

import (
	"math"
	"math/big"
	"math/rand"
	"strings"
	"testing"

	"groove/api"
	"groove/integer"
	"groove/rational"
)

// power returns a to the power n, which has no error.
func power(t *testing.T, a api.Rat, n int) api.Rat {
	t.Helper()
	p, e := rational.Power(a, n)
	if e != api.OK {
		t.Fatalf("P2.6: %s to the power %d: %d", value(a), n, e)
	}
	return p
}

// P2.6: powers against products.
func TestPowers(t *testing.T) {
	for _, a := range samples(11, 100) {
		repeated := raw(1, 1)
		for n := range 14 {
			if p := power(t, a, n); p != repeated {
				t.Fatalf("P2.6: %#v to the power %d: %#v", a, n, p)
			}
			repeated = times(repeated, a)
		}
	}
}

// P2.6: exponents add up, and the power of a product is the product of the powers.
func TestPowerLaws(t *testing.T) {
	r := rand.New(rand.NewSource(12))
	triples(13, 1500, func(a, b, _ api.Rat) {
		m, n := r.Intn(16), r.Intn(16)
		if power(t, a, m+n) != times(power(t, a, m), power(t, a, n)) {
			t.Fatalf("P2.6: %#v to the powers %d and %d", a, m, n)
		}
		if power(t, times(a, b), n) != times(power(t, a, n), power(t, b, n)) {
			t.Fatalf("P2.6: %#v and %#v to the power %d", a, b, n)
		}
	})
}

// P2.6: the limits of exponents, and of both Num and Den of the canonical number.
func TestPowerLimits(t *testing.T) {
	word := int64(1 << 16)
	one := integer.Of(1)
	long := api.Int{Mag: "\x01" + strings.Repeat("\x00", api.MaxText/8)}
	for _, c := range []struct {
		a api.Rat
		n int
		e api.Errno
	}{
		{raw(1, 2), -1, api.ErrRange}, {raw(1, 2), math.MinInt, api.ErrRange}, {raw(1, 2), api.MaxPower + 1, api.ErrRange}, {raw(0, 1), math.MaxInt, api.ErrRange}, {api.Rat{}, -1, api.ErrRange}, {api.Rat{}, api.MaxPower + 1, api.ErrRange},
		{api.Rat{Num: long, Den: one}, -1, api.ErrRange}, {api.Rat{Num: one, Den: long}, api.MaxPower + 1, api.ErrRange},
		{api.Rat{}, 0, api.OK}, {api.Rat{}, api.MaxPower, api.OK}, {raw(5, 0), 0, api.OK}, {raw(5, 0), 7, api.OK}, {raw(0, -3), api.MaxPower, api.OK}, {raw(1, 1), api.MaxPower, api.OK}, {raw(1, -1), api.MaxPower - 1, api.OK}, {raw(2, -2), api.MaxPower, api.OK},
		// 65535 has 16 bits, and 16 * 4096 is the limit.
		{raw(word-1, 1), api.MaxPower, api.OK}, {raw(word, 1), api.MaxPower, api.ErrLimit}, {raw(1, word-1), api.MaxPower, api.OK}, {raw(1, word), api.MaxPower, api.ErrLimit}, {raw(1, -word), api.MaxPower, api.ErrLimit}, {raw(word-1, word), api.MaxPower, api.ErrLimit}, {raw(word, word-1), api.MaxPower, api.ErrLimit}, {raw(1-word, word-2), api.MaxPower - 1, api.OK},
		// 17 * 3855 is 65535.
		{raw(word, 1), 3855, api.OK}, {raw(word, 1), 3856, api.ErrLimit}, {raw(1, word), 3855, api.OK}, {raw(1, word), 3856, api.ErrLimit},
		// Only the canonical number counts.
		{raw(word, word), api.MaxPower, api.OK}, {raw(word, 0), api.MaxPower, api.OK}, {raw(0, word), api.MaxPower, api.OK}, {raw(2*word, -4), 1 << 12, api.OK}, {raw(word*word, word), api.MaxPower, api.ErrLimit},
		{api.Rat{Num: long, Den: long}, api.MaxPower, api.OK}, {api.Rat{Num: long}, api.MaxPower, api.OK}, {api.Rat{Den: long}, api.MaxPower, api.OK},
		{api.Rat{Num: long, Den: one}, 0, api.OK}, {api.Rat{Num: long, Den: one}, 1, api.ErrLimit}, {api.Rat{Num: one, Den: long}, 0, api.OK}, {api.Rat{Num: one, Den: long}, 1, api.ErrLimit}, {api.Rat{Num: integer.Neg(long), Den: integer.Of(3)}, 1, api.ErrLimit},
	} {
		p, e := rational.Power(c.a, c.n)
		want := api.Rat{}
		if c.e == api.OK {
			n, exponent := value(c.a), big.NewInt(int64(c.n))
			want = api.Rat{Num: whole(new(big.Int).Exp(n.Num(), exponent, nil)), Den: whole(new(big.Int).Exp(n.Denom(), exponent, nil))}
		}
		if e != c.e || p != want {
			t.Errorf("P2.6: a number of %d and %d bits to the power %d: %d", integer.Bits(c.a.Num), integer.Bits(c.a.Den), c.n, e)
		}
	}
}
