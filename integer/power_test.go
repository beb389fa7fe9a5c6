package integer_test

import (
	"math"
	"math/big"
	"math/rand"
	"strings"
	"testing"

	"groove/api"
	"groove/integer"
)

// P1.6: powers against products, and the sum of exponents.
func TestPowers(t *testing.T) {
	for _, a := range edges() {
		repeated := integer.Of(1)
		for n := range 20 {
			p, e := integer.Power(a, n)
			if e != api.OK || p != repeated {
				t.Fatalf("P1.6: %#v to the power %d: %#v %d", a, n, p, e)
			}
			repeated = product(repeated, a)
		}
	}
	r := rand.New(rand.NewSource(10))
	for range 2000 {
		a, m, n := random(r, 6), r.Intn(40), r.Intn(40)
		p, _ := integer.Power(a, m)
		q, _ := integer.Power(a, n)
		if both, e := integer.Power(a, m+n); e != api.OK || both != product(p, q) {
			t.Fatalf("P1.6: %#v to the powers %d and %d", a, m, n)
		}
	}
}

// P1.6: the limits of exponents and of results.
func TestPowerLimits(t *testing.T) {
	long := api.Int{Mag: "\x01" + strings.Repeat("\x00", api.MaxText/8)}
	for _, c := range []struct {
		a api.Int
		n int
		e api.Errno
	}{
		{integer.Of(2), -1, api.ErrRange}, {integer.Of(2), math.MinInt, api.ErrRange}, {integer.Of(0), api.MaxPower + 1, api.ErrRange}, {integer.Of(1), math.MaxInt, api.ErrRange}, {integer.Of(0), -1, api.ErrRange},
		{long, -1, api.ErrRange}, {long, api.MaxPower + 1, api.ErrRange}, {twoTo(16, 0), api.MaxPower + 1, api.ErrRange},
		{integer.Of(0), api.MaxPower, api.OK}, {integer.Of(1), api.MaxPower, api.OK}, {integer.Of(-1), api.MaxPower, api.OK}, {integer.Of(-1), api.MaxPower - 1, api.OK}, {integer.Of(2), api.MaxPower, api.OK},
		{api.Int{Neg: true, Mag: "\x00\x00\x00"}, api.MaxPower, api.OK}, {api.Int{Neg: true, Mag: "\x00\x00\x00\x03"}, api.MaxPower - 1, api.OK},
		// 65535 has 16 bits, and 16 * 4096 is the limit.
		{twoTo(16, -1), api.MaxPower, api.OK}, {canonical(big.NewInt(-65535)), api.MaxPower - 1, api.OK}, {twoTo(16, 0), api.MaxPower, api.ErrLimit}, {canonical(big.NewInt(-65536)), api.MaxPower, api.ErrLimit}, {api.Int{Mag: "\x00\x00\x00\xff\xff"}, api.MaxPower, api.OK},
		// 17 * 3855 is 65535.
		{twoTo(16, 0), 3855, api.OK}, {twoTo(16, 0), 3856, api.ErrLimit},
		{twoTo(api.MaxText, -1), 1, api.OK}, {twoTo(api.MaxText, 0), 1, api.ErrLimit}, {twoTo(api.MaxText/2, -1), 2, api.OK}, {twoTo(api.MaxText/2, 0), 2, api.ErrLimit},
		{long, 0, api.OK}, {long, 1, api.ErrLimit}, {integer.Neg(long), 1, api.ErrLimit}, {twoTo(1<<20, 0), 0, api.OK}, {twoTo(1<<20, 0), 4096, api.ErrLimit},
	} {
		p, e := integer.Power(c.a, c.n)
		want := new(big.Int)
		if c.e == api.OK {
			want.Exp(value(c.a), big.NewInt(int64(c.n)), nil)
		}
		if e != c.e || !same(p, want) {
			t.Errorf("P1.6: a number of %d bits to the power %d: %d", integer.Bits(c.a), c.n, e)
		}
	}
}

// checkRoot says whether a root is not between its neighbours.
func checkRoot(t *testing.T, a api.Int, n int) {
	t.Helper()
	r, e := integer.Root(a, n)
	low := new(big.Int).Exp(value(r), big.NewInt(int64(n)), nil)
	next := new(big.Int).Add(value(r), big.NewInt(1))
	high := next.Exp(next, big.NewInt(int64(n)), nil)
	if e != api.OK || r != canonical(value(r)) || r.Neg || low.Cmp(value(a)) > 0 || high.Cmp(value(a)) <= 0 {
		t.Fatalf("P1.6: the root %d of %#v: %#v %d", n, a, r, e)
	}
}

// P1.6: roots, at powers and beside them.
func TestRoots(t *testing.T) {
	for a := range 1100 {
		for n := 1; n <= 12; n++ {
			checkRoot(t, integer.Of(a), n)
		}
	}
	for _, a := range samples(11, 300) {
		a.Neg = false
		for _, n := range []int{1, 2, 3, 4, 5, 7, 31, 32, 33, 63, 64, 65, 128, 129, api.MaxPower} {
			checkRoot(t, a, n)
		}
	}
	for _, b := range []api.Int{integer.Of(1), integer.Of(2), integer.Of(3), integer.Of(255), integer.Of(256), twoTo(32, -1), twoTo(32, 0), twoTo(32, 1), twoTo(64, -1), twoTo(64, 0)} {
		for n := 1; n <= 40; n++ {
			p := canonical(new(big.Int).Exp(value(b), big.NewInt(int64(n)), nil))
			below := integer.Sub(b, integer.Of(1))
			if r, e := integer.Root(p, n); e != api.OK || r != b {
				t.Errorf("P1.6: the root %d of the power of %#v: %#v %d", n, b, r, e)
			}
			if r, e := integer.Root(integer.Sub(p, integer.Of(1)), n); e != api.OK || r != below {
				t.Errorf("P1.6: the root %d below the power of %#v: %#v %d", n, b, r, e)
			}
		}
	}
}

// P1.6: the limits of roots.
func TestRootLimits(t *testing.T) {
	for _, c := range []struct {
		a api.Int
		n int
	}{
		{integer.Of(-1), 3}, {integer.Of(-8), 3}, {integer.Of(-1), 1}, {integer.Of(-1), 0}, {api.Int{Neg: true, Mag: "\x00\x01"}, 2}, {integer.Neg(twoTo(100, 0)), 2},
		{integer.Of(5), 0}, {integer.Of(5), -1}, {integer.Of(5), math.MinInt}, {integer.Of(5), api.MaxPower + 1}, {integer.Of(5), math.MaxInt}, {integer.Of(0), 0}, {integer.Of(0), api.MaxPower + 1},
	} {
		if r, e := integer.Root(c.a, c.n); e != api.ErrRange || r != (api.Int{}) {
			t.Errorf("P1.6: the root %d of %#v: %#v %d", c.n, c.a, r, e)
		}
	}
	for _, zero := range []api.Int{{}, {Neg: true}, {Neg: true, Mag: "\x00\x00"}} {
		for _, n := range []int{1, 2, 3, api.MaxPower} {
			if r, e := integer.Root(zero, n); e != api.OK || r != (api.Int{}) {
				t.Errorf("P1.6: the root %d of 0: %#v %d", n, r, e)
			}
		}
	}
	for d, want := range map[int64]int{-1: 1, 0: 2, 1: 2} {
		if r, e := integer.Root(twoTo(api.MaxPower, d), api.MaxPower); e != api.OK || r != integer.Of(want) {
			t.Errorf("P1.6: the root of 2^4096 + %d: %#v %d", d, r, e)
		}
	}
	if r, e := integer.Root(twoTo(6000, 0), 2); e != api.OK || r != twoTo(3000, 0) {
		t.Errorf("P1.6: the root of 2^6000: %#v", e)
	}
	if r, e := integer.Root(twoTo(6000, -1), 2); e != api.OK || r != twoTo(3000, -1) {
		t.Errorf("P1.6: the root of 2^6000 - 1: %#v", e)
	}
}
