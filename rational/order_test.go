package rational_test

import (
	"testing"

	"groove/api"
	"groove/integer"
	"groove/rational"
)

// P2.3: Compare is a total order.
func TestOrder(t *testing.T) {
	pairs(7, 8000, func(a, b api.Rat) {
		c := rational.Compare(a, b)
		if c != -rational.Compare(b, a) || c != value(rational.Sub(a, b)).Sign() || rational.Compare(a, a) != 0 {
			t.Fatalf("P2.3: Compare %#v and %#v: %d", a, b, c)
		}
		if (c == 0) != (canonical(value(a)) == canonical(value(b))) || c != rational.Compare(rational.Neg(b), rational.Neg(a)) {
			t.Fatalf("P2.3: Compare %#v and %#v: %d", a, b, c)
		}
	})
	triples(8, 30000, func(a, b, c api.Rat) {
		if rational.Compare(a, b) <= 0 && rational.Compare(b, c) <= 0 && rational.Compare(a, c) > 0 {
			t.Fatalf("P2.3: %#v, %#v and %#v are not in order", a, b, c)
		}
	})
}

// P2.3: addition keeps the order, and so does multiplication with a positive number.
func TestOrderIsKept(t *testing.T) {
	zero := raw(0, 1)
	triples(9, 15000, func(a, b, c api.Rat) {
		order := rational.Compare(a, b)
		if rational.Compare(plus(a, c), plus(b, c)) != order {
			t.Fatalf("P2.3: adding %#v to %#v and %#v", c, a, b)
		}
		if rational.Compare(times(a, c), times(b, c)) != order*rational.Compare(c, zero) {
			t.Fatalf("P2.3: multiplying %#v and %#v by %#v", a, b, c)
		}
	})
}

// P2.3: numbers are compared by their values, whatever their signs and terms are.
func TestOrderOfValues(t *testing.T) {
	for _, c := range []struct {
		a, b  api.Rat
		order int
	}{
		{raw(1, 2), raw(2, 4), 0}, {raw(1, -2), raw(-1, 2), 0}, {raw(-1, -2), raw(1, 2), 0}, {raw(5, 0), raw(0, 7), 0}, {api.Rat{}, raw(0, -3), 0},
		{raw(1, -2), raw(1, 3), -1}, {raw(1, -2), raw(1, -3), -1}, {raw(-1, -2), raw(1, 3), 1}, {raw(-5, -1), raw(3, -1), 1}, {raw(7, 0), raw(1, 9), -1}, {raw(7, 0), raw(-1, 9), 1}, {raw(-7, 0), raw(-1, 9), 1},
		{raw(1, 2), raw(1, 3), 1}, {raw(-1, 2), raw(-1, 3), -1}, {raw(255, 256), raw(256, 257), -1}, {raw(256, 255), raw(257, 256), 1},
	} {
		if order := rational.Compare(c.a, c.b); order != c.order {
			t.Errorf("P2.3: Compare %#v and %#v: %d", c.a, c.b, order)
		}
	}
}

// P2.4: the floor is at most the number, which is less than the floor and 1.
func TestFloor(t *testing.T) {
	for _, a := range samples(10, 3000) {
		low := rational.Of(rational.Floor(a))
		if rational.Compare(low, a) > 0 || rational.Compare(a, plus(low, raw(1, 1))) >= 0 {
			t.Fatalf("P2.4: the floor of %#v: %s", a, rational.Print(low))
		}
	}
	for _, c := range []struct {
		a    api.Rat
		want int
	}{
		{raw(0, 1), 0}, {raw(0, -9), 0}, {raw(5, 0), 0}, {raw(-5, 0), 0}, {api.Rat{}, 0}, {raw(1, 2), 0}, {raw(-1, 2), -1}, {raw(1, -2), -1}, {raw(-1, -2), 0},
		{raw(7, 2), 3}, {raw(-7, 2), -4}, {raw(7, -2), -4}, {raw(-7, -2), 3}, {raw(4, 2), 2}, {raw(-4, 2), -2}, {raw(4, -2), -2}, {raw(-4, -2), 2}, {raw(6, 1), 6}, {raw(-6, 1), -6}, {raw(999, 1000), 0}, {raw(-999, 1000), -1}, {raw(-1001, 1000), -2},
	} {
		if f := rational.Floor(c.a); f != integer.Of(c.want) {
			t.Errorf("P2.4: the floor of %#v: %#v", c.a, f)
		}
	}
}
