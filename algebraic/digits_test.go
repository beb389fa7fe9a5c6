package algebraic_test

import (
	"math/big"
	"math/rand"
	"testing"

	"groove/algebraic"
	"groove/api"
)

// unit returns 10^-places.
func unit(places int) *big.Rat {
	return new(big.Rat).SetFrac(big.NewInt(1), new(big.Int).Exp(big.NewInt(10), big.NewInt(int64(places)), nil))
}

// P6.7: digits are multiples of a unit; a number is at least these, and less than these and one unit.
func TestDigits(t *testing.T) {
	r := rand.New(rand.NewSource(71))
	for _, x := range reals(t, 72, 120, 7) {
		s := spotOf(x)
		for _, places := range []int{0, 1, 30, r.Intn(31)} {
			d := digits(t, x, places)
			if !new(big.Rat).Quo(d, unit(places)).IsInt() {
				t.Fatalf("P6.7: %d digits of %s: %s", places, text(x), d)
			}
			above := new(big.Rat).Add(d, unit(places))
			if s.compare(d) < 0 || s.compare(above) >= 0 {
				t.Fatalf("P6.7: %d digits of %s: %s", places, text(x), d.FloatString(places))
			}
			if compareRat(t, x, d) < 0 || compareRat(t, x, above) >= 0 {
				t.Fatalf("P6.7: %s, compared with its %d digits %s, or with one unit more", text(x), places, d.FloatString(places))
			}
		}
		if n := new(big.Rat).SetInt(floor(t, x)); n.Cmp(digits(t, x, 0)) != 0 {
			t.Fatalf("P6.7: the floor of %s: %s", text(x), n)
		}
	}
}

// P6.7: the digits of square roots are those of roots of integers.
func TestDigitsOfRoots(t *testing.T) {
	for n := range int64(40) {
		if n == 0 {
			continue
		}
		x := realIn(new(big.Rat), big.NewRat(n+1, 1), of(-n, 0, 1))
		low := realIn(big.NewRat(-n-1, 1), new(big.Rat), of(-n, 0, 1))
		for places := 0; places <= 30; places += 6 {
			square := new(big.Int).Exp(big.NewInt(10), big.NewInt(int64(2*places)), nil)
			root := square.Sqrt(square.Mul(square, big.NewInt(n)))
			want := new(big.Rat).Mul(new(big.Rat).SetInt(root), unit(places))
			if d := digits(t, x, places); d.Cmp(want) != 0 {
				t.Fatalf("P6.7: %d digits of %s: %s, not %s", places, text(x), d, want)
			}
			// The opposite number is rounded away from 0, unless it is a multiple itself.
			want.Neg(want)
			if new(big.Rat).Mul(want, want).Cmp(big.NewRat(n, 1)) != 0 {
				want.Sub(want, unit(places))
			}
			if d := digits(t, low, places); d.Cmp(want) != 0 {
				t.Fatalf("P6.7: %d digits of %s: %s, not %s", places, text(low), d, want)
			}
		}
	}
}

// P6.7: the digits of rational numbers, many of which are multiples of units, by all kinds of intervals.
func TestDigitsOfRationals(t *testing.T) {
	r := rand.New(rand.NewSource(73))
	for range 300 {
		x := big.NewRat(r.Int63n(4001)-2000, []int64{1, 2, 4, 5, 10, 100, 1000, 3, 7}[r.Intn(9)])
		scale := new(big.Int).Exp(big.NewInt(10), big.NewInt(int64(r.Intn(31))), nil)
		scaled := new(big.Rat).Mul(x, new(big.Rat).SetInt(scale))
		// The quotient of Euclid's division by a positive number is the floor.
		whole := new(big.Int).Div(scaled.Num(), scaled.Denom())
		want := new(big.Rat).SetFrac(whole, scale)
		places := len(scale.String()) - 1
		list := []api.Real{algebraic.Of(number(x))}
		for _, n := range []int64{1, 1000, 999983} {
			width := big.NewRat(1, n)
			list = append(list, realIn(new(big.Rat).Sub(x, width), x, linear(x)), realIn(new(big.Rat).Sub(x, width), new(big.Rat).Add(x, width), linear(x)))
		}
		for _, a := range list {
			if d := digits(t, a, places); d.Cmp(want) != 0 {
				t.Fatalf("P6.7: %d digits of %s: %s, not %s", places, text(a), d, want)
			}
		}
	}
}

// P6.7: known digits and floors, in intervals of many widths, and around 0.
func TestKnownDigits(t *testing.T) {
	long := new(big.Rat).SetInt(new(big.Int).Lsh(big.NewInt(1), 400))
	for _, c := range []struct {
		x      api.Real
		places int
		want   string
		floor  int64
	}{
		{realOf(1, 2, -1, -1, 1), 0, "1", 1}, {realOf(1, 2, -1, -1, 1), 1, "8/5", 1}, {realOf(1, 2, -1, -1, 1), 30, "323606797749978969640917366873/200000000000000000000000000000", 1}, {realOf(-1, 0, -1, -1, 1), 4, "-6181/10000", -1}, {realOf(-1, 0, -1, -1, 1), 30, "-309016994374947424102293417183/500000000000000000000000000000", -1},
		{realOf(-1, 1, 0, 1), 0, "0", 0}, {realOf(-1, 0, 0, 1), 30, "0", 0}, {realOf(0, 1, -1, 1), 30, "1", 1}, {realOf(-2, -1, 1, 1), 30, "-1", -1}, {realOf(-2, 0, 1, 1), 0, "-1", -1},
		{realOf(0, 1, -1, 3), 30, "333333333333333333333333333333/1000000000000000000000000000000", 0}, {realOf(-1, 0, 1, 3), 2, "-17/50", -1}, {realOf(-1, 0, 1, 1000), 2, "-1/100", -1}, {realOf(-1, 0, 1, 1000), 3, "-1/1000", -1}, {realOf(0, 1, -1, 1000), 2, "0", 0},
		{realIn(new(big.Rat).Neg(long), long, of(-7, 2)), 1, "7/2", 3}, {realIn(new(big.Rat), long, of(-2, 0, 1)), 5, "141421/100000", 1}, {realIn(new(big.Rat).Neg(long), new(big.Rat), of(-2, 0, 1)), 5, "-70711/50000", -2},
		{realIn(big.NewRat(1, 1), big.NewRat(1001, 1000), of(-1000001, 1000000)), 5, "1", 1}, {realIn(big.NewRat(999, 1000), big.NewRat(1, 1), of(-999999, 1000000)), 5, "99999/100000", 0},
		{realIn(big.NewRat(14142135623, 10000000000), big.NewRat(14142135624, 10000000000), of(-2, 0, 1)), 2, "141/100", 1}, {realIn(big.NewRat(14142135623, 10000000000), big.NewRat(14142135624, 10000000000), of(-2, 0, 1)), 12, "1414213562373/1000000000000", 1},
	} {
		if d := digits(t, c.x, c.places); d.RatString() != c.want {
			t.Errorf("P6.7: %d digits of %s: %s, not %s", c.places, text(c.x), d.RatString(), c.want)
		}
		if n := floor(t, c.x); n.Cmp(big.NewInt(c.floor)) != 0 {
			t.Errorf("P6.7: the floor of %s: %s, not %d", text(c.x), n, c.floor)
		}
	}
	root := realIn(new(big.Rat), new(big.Rat).Mul(long, long), []api.Int{whole(new(big.Int).Sub(big.NewInt(1), long.Num())), {}, of(1)[0]})
	if n := floor(t, root); n.Cmp(new(big.Int).Sub(new(big.Int).Lsh(big.NewInt(1), 200), big.NewInt(1))) != 0 {
		t.Errorf("P6.7: the floor of the root of 2^400 - 1: %s", n)
	}
}
