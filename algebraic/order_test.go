package algebraic_test

import (
	"math/big"
	"math/rand"
	"slices"
	"testing"

	"groove/algebraic"
	"groove/api"
	"groove/polynomial"
)

// P6.2: any numbers, against the definition, in both orders.
func TestCompare(t *testing.T) {
	list := reals(t, 21, 75, 6)
	for i, a := range list {
		for _, b := range list[i%3:] {
			if r := spotOf(a).order(spotOf(b)); compare(t, a, b) != r || compare(t, b, a) != -r {
				t.Fatalf("P6.2: %s, compared with %s: %d, and in the other order %d; not %d", text(a), text(b), compare(t, a, b), compare(t, b, a), r)
			}
		}
	}
}

// P6.2: the order is total: numbers that have been sorted are in the right order, each with all others.
func TestTotalOrder(t *testing.T) {
	list := reals(t, 22, 70, 7)
	slices.SortStableFunc(list, func(a, b api.Real) int { return compare(t, a, b) })
	// Equal values form groups.
	group := make([]int, len(list))
	for i := range list[1:] {
		group[i+1] = group[i]
		switch compare(t, list[i], list[i+1]) {
		case 1:
			t.Fatalf("P6.2: %s is greater than %s", text(list[i]), text(list[i+1]))
		case -1:
			group[i+1]++
		}
	}
	for i, a := range list {
		for j, b := range list {
			want := max(-1, min(1, group[i]-group[j]))
			if n := compare(t, a, b); n != want {
				t.Fatalf("P6.2: %s, compared with %s: %d, not %d", text(a), text(b), n, want)
			}
		}
	}
}

// ends returns numbers at which comparing with x changes: the ends of its interval and numbers beside them, and numbers near its value or equal to it.
func ends(t *testing.T, r *rand.Rand, x api.Real) []*big.Rat {
	t.Helper()
	low, high := quantity(x.In.Low), quantity(x.In.High)
	tiny := big.NewRat(1, 1000000007)
	list := []*big.Rat{low, high, half(low, high), new(big.Rat), place(r), place(r), digits(t, x, 0), digits(t, x, 12), digits(t, x, 30)}
	for _, y := range list {
		list = append(list, new(big.Rat).Add(y, tiny), new(big.Rat).Sub(y, tiny))
	}
	return list
}

// P6.2: comparing with rational numbers, against the definition, and with the values of these numbers.
func TestCompareRat(t *testing.T) {
	r := rand.New(rand.NewSource(23))
	for _, x := range reals(t, 24, 90, 7) {
		s := spotOf(x)
		for _, y := range ends(t, r, x) {
			n := compareRat(t, x, y)
			if n != s.compare(y) {
				t.Fatalf("P6.2: %s, compared with %s: %d", text(x), y, n)
			}
			of := algebraic.Of(number(y))
			if compare(t, x, of) != n || compare(t, of, x) != -n {
				t.Fatalf("P6.2: %s, compared with the value of %s: %d, and in the other order %d; with %s itself: %d", text(x), y, compare(t, x, of), compare(t, of, x), y, n)
			}
		}
	}
}

// P6.2: known orders, where intervals lie apart, meet, overlap, contain each other or are equal.
func TestKnownOrder(t *testing.T) {
	for _, c := range []struct {
		a, b api.Real
		want int
	}{
		{realOf(1, 2, -2, 0, 1), realOf(5, 6, -11, 2), -1}, {realOf(1, 2, -2, 0, 1), realOf(2, 3, -5, 0, 1), -1}, {realOf(0, 1, -1, 1), realOf(1, 2, -2, 0, 1), -1}, {realOf(0, 1, -1, 1), realOf(1, 2, -2, 1), -1},
		// Both values at upper ends, or one of them, where the other one is equal or not.
		{realOf(0, 2, -2, 1), realOf(1, 2, -2, 1), 0}, {realOf(0, 2, -2, 1), realOf(0, 3, -4, 0, 1), 0}, {realOf(0, 3, -4, 0, 1), realOf(0, 2, -2, 1), 0}, {realOf(1, 2, -3, 0, 1), realOf(1, 2, -2, 1), -1}, {realOf(1, 2, -2, 1), realOf(1, 2, -3, 0, 1), 1}, {realOf(0, 2, -2, 1), realOf(1, 3, -5, 0, 1), -1}, {realOf(1, 3, -5, 0, 1), realOf(0, 2, -2, 1), 1},
		// The same polynomial, and other roots of it.
		{realOf(-2, 0, -2, 0, 1), realOf(0, 2, -2, 0, 1), -1}, {realOf(0, 1, 1, -3, 0, 1), realOf(1, 2, 1, -3, 0, 1), -1}, {realOf(1, 2, 1, -3, 0, 1), realOf(-2, -1, 1, -3, 0, 1), 1},
		// A common divisor that is 0 at neither value, or at one alone.
		{realOf(1, 2, 10, -2, -5, 1), realOf(4, 6, 10, -2, -5, 1), -1}, {realOf(1, 2, 10, -2, -5, 1), realOf(1, 2, 15, -3, -5, 1), -1}, {realOf(1, 2, 15, -3, -5, 1), realOf(4, 6, 10, -2, -5, 1), -1}, {realOf(4, 6, 15, -3, -5, 1), realOf(4, 6, 10, -2, -5, 1), 0}, {realOf(4, 6, 10, -2, -5, 1), realOf(1, 2, -2, 0, 1), 1}, {realOf(1, 2, -2, 0, 1), realOf(4, 6, 10, -2, -5, 1), -1},
		// Near each other.
		{realOf(1, 2, -2, 0, 1), algebraic.Of(ratio(1414213562373095049, 1000000000000000000)), -1}, {realOf(1, 2, -2, 0, 1), algebraic.Of(ratio(1414213562373095048, 1000000000000000000)), 1}, {realOf(1, 2, -2000000000000000001, 0, 1000000000000000000), realOf(0, 4, -2, 0, 1), 1}, {realOf(1, 2, -1999999999999999999, 0, 1000000000000000000), realOf(0, 4, -2, 0, 1), -1},
	} {
		if m, n := compare(t, c.a, c.b), compare(t, c.b, c.a); m != c.want || n != -c.want {
			t.Errorf("P6.2: %s, compared with %s: %d, and in the other order %d; not %d", text(c.a), text(c.b), m, n, c.want)
		}
	}
}

// P6.3: Of keeps the order.
func TestOrderOfRationals(t *testing.T) {
	r := rand.New(rand.NewSource(31))
	list := []*big.Rat{new(big.Rat), big.NewRat(1, 1), big.NewRat(-1, 1), big.NewRat(1, 1<<40), big.NewRat(1<<40+1, 1<<40), new(big.Rat).SetInt(new(big.Int).Lsh(big.NewInt(5), 300))}
	for range 40 {
		list = append(list, place(r))
	}
	for _, x := range list {
		for _, y := range list {
			a, b := algebraic.Of(number(x)), algebraic.Of(number(y))
			if m, n := compare(t, a, b), compareRat(t, a, y); m != x.Cmp(y) || n != x.Cmp(y) {
				t.Fatalf("P6.3: the value of %s, compared with that of %s: %d, and with %s itself: %d", x, y, m, y, n)
			}
		}
	}
}

// P6.3: at rational values, signs are those of the values of polynomials, by whatever polynomial and interval the value is given.
func TestSignsAtRationals(t *testing.T) {
	r := rand.New(rand.NewSource(32))
	for range 350 {
		x := place(r)
		p := random(r, 8)
		if r.Intn(3) == 0 {
			p = product(t, p, linear(x))
		}
		want := valueAt(value(p), x).Sign()
		if at, e := polynomial.At(p, number(x)); e != api.OK || quantity(at).Sign() != want {
			t.Fatalf("the value of %s at %s: %v, %d", polynomial.Print(p), x, at, e)
		}
		list := []api.Real{algebraic.Of(number(x))}
		for _, a := range realsOf(r, product(t, linear(x), random(r, 4))) {
			if spotOf(a).compare(x) == 0 {
				list = append(list, a)
			}
		}
		for _, a := range list {
			if n := sign(t, p, a); n != want {
				t.Fatalf("P6.3: the sign of %s at %s, which is %s: %d, not %d", polynomial.Print(p), text(a), x, n, want)
			}
		}
	}
}
