package matrix_test

import (
	"math"
	"math/big"
	"math/rand"
	"testing"

	"groove/api"
	"groove/matrix"
)

// P4.6: powers against products; the power 0 is the identity, even of 0.
func TestPowers(t *testing.T) {
	eachSquare(51, 150, 5, func(a [][]api.Int) {
		repeated := unit(len(a))
		for n := range 18 {
			if p := power(t, a, n); !same(p, repeated) {
				t.Fatalf("P4.6: %v to the power %d: %v", a, n, p)
			}
			repeated = times(repeated, a)
		}
	})
}

// P4.6: the product of two powers is the power with the sum of the exponents.
func TestExponents(t *testing.T) {
	r := rand.New(rand.NewSource(52))
	eachSquare(53, 200, 6, func(a [][]api.Int) {
		m, n := r.Intn(30), r.Intn(30)
		if p := mul(t, power(t, a, m), power(t, a, n)); !same(p, power(t, a, m+n)) {
			t.Fatalf("P4.6: %v to the powers %d and %d", a, m, n)
		}
	})
	large := random(r, api.MaxSide, api.MaxSide)
	if p := mul(t, power(t, large, 2), power(t, large, 3)); !same(p, power(t, large, 5)) {
		t.Errorf("P4.6: %v to the powers 2 and 3", large)
	}
}

// P4.6: great exponents.
func TestGreatExponents(t *testing.T) {
	last, next := big.NewInt(0), big.NewInt(1)
	for n := 1; n <= api.MaxPower; n++ {
		// The numbers of Fibonacci with the indices n - 1, n and n + 1.
		before := last
		last, next = next, new(big.Int).Add(last, next)
		if n < api.MaxPower-2 && n%500 > 1 {
			continue
		}
		if p := power(t, [][]api.Int{row(1, 1), row(1, 0)}, n); !same(p, [][]api.Int{{whole(next), whole(last)}, {whole(last), whole(before)}}) {
			t.Errorf("P4.6: the power %d of Fibonacci's matrix", n)
		}
	}
	for _, n := range []int{api.MaxPower - 1, api.MaxPower} {
		if p := power(t, cycle(api.MaxSide), n); !same(p, power(t, cycle(api.MaxSide), n%api.MaxSide)) {
			t.Errorf("P4.6: the power %d of a cycle", n)
		}
		if p := power(t, zero(3, 3), n); !same(p, zero(3, 3)) {
			t.Errorf("P4.6: the power %d of 0", n)
		}
	}
}

// P4.6: exponents that there are not.
func TestExponentRange(t *testing.T) {
	huge := [][]api.Int{{twoTo(70000, 0)}}
	for _, a := range [][][]api.Int{{row(0)}, {row(1)}, unit(2), unit(api.MaxSide), huge} {
		for _, n := range []int{-1, -2, math.MinInt, api.MaxPower + 1, math.MaxInt} {
			if p, e := matrix.Power(a, n); e != api.ErrRange || p != nil {
				t.Errorf("P4.6: %d rows to the power %d: %v, %d", len(a), n, p, e)
			}
		}
	}
}

// P4.6: the limit of powers: the bits of the greatest entry and of the number of rows, times the exponent.
func TestPowerLimit(t *testing.T) {
	check := func(a [][]api.Int, n int, want api.Errno) {
		t.Helper()
		p, e := matrix.Power(a, n)
		if e != want || (p == nil) != (want != api.OK) {
			t.Errorf("P4.6: %d rows with entries up to %d bits to the power %d: %d", len(a), size(a[0][0]).BitLen(), n, e)
		}
	}
	// One number of rows is the last one of so many bits, the next one has one more.
	for rows, bits := 1, uint(1); rows <= api.MaxSide; rows, bits = 2*rows+1, bits+1 {
		most := new(big.Int).Lsh(big.NewInt(1), 16-bits)
		most.Sub(most, big.NewInt(1))
		for _, number := range []*big.Int{most, new(big.Int).Neg(most)} {
			check(scaled(rows, number), api.MaxPower, api.OK)
			check(scaled(rows+1, number), api.MaxPower, api.ErrLimit)
			check(scaled(rows+1, number), api.MaxText/17, api.OK)
			check(scaled(rows+1, number), api.MaxText/17+1, api.ErrLimit)
		}
		over := new(big.Int).Add(most, big.NewInt(1))
		check(scaled(rows, over), api.MaxPower, api.ErrLimit)
		check(scaled(rows, over.Neg(over)), api.MaxPower, api.ErrLimit)
	}
	for _, c := range []struct {
		bits uint
		n    int
		want api.Errno
	}{
		{api.MaxText - 2, 1, api.OK}, {api.MaxText - 1, 1, api.ErrLimit}, {api.MaxText, 1, api.ErrLimit}, {api.MaxText/2 - 2, 2, api.OK}, {api.MaxText/2 - 1, 2, api.ErrLimit},
		{1 << 20, 0, api.OK}, {1 << 20, 1, api.ErrLimit}, {1 << 20, api.MaxPower, api.ErrLimit},
	} {
		// 2^bits has one more bit, and so has the number of rows.
		check([][]api.Int{{twoTo(c.bits, 0)}}, c.n, c.want)
		check([][]api.Int{{opposite(twoTo(c.bits, 0))}}, c.n, c.want)
	}
	if p := power(t, [][]api.Int{{twoTo(1<<20, 0), {}}, {{}, {}}}, 0); !same(p, unit(2)) {
		t.Errorf("P4.6: the power 0 of a great number: %v", p)
	}
}

// P4.6: any entry can be the greatest one.
func TestGreatestEntry(t *testing.T) {
	for i := range 9 {
		for _, c := range []struct {
			n    int
			want api.Errno
		}{{api.MaxText / 22, api.OK}, {api.MaxText/22 + 1, api.ErrLimit}} {
			// A matrix with one entry that is not 0 has powers that are soon computed.
			a := zero(3, 3)
			a[i/3][i%3] = opposite(twoTo(20, -1))
			if p, e := matrix.Power(a, c.n); e != c.want || (p == nil) != (c.want != api.OK) {
				t.Errorf("P4.6: %v to the power %d: %d", a, c.n, e)
			}
		}
	}
}
