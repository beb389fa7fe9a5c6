package rational_test

import (
	"testing"

	"groove/api"
	"groove/rational"
)

// P2.2: the laws of fields.
func TestField(t *testing.T) {
	triples(5, 15000, func(a, b, c api.Rat) {
		if plus(a, b) != plus(b, a) || times(a, b) != times(b, a) {
			t.Fatalf("P2.2: %#v and %#v do not commute", a, b)
		}
		if plus(plus(a, b), c) != plus(a, plus(b, c)) || times(times(a, b), c) != times(a, times(b, c)) {
			t.Fatalf("P2.2: %#v, %#v and %#v are not associative", a, b, c)
		}
		if times(a, plus(b, c)) != plus(times(a, b), times(a, c)) {
			t.Fatalf("P2.2: %#v is not distributed over %#v and %#v", a, b, c)
		}
	})
}

// P2.2: Sub and Quo undo Add and Mul.
func TestInverses(t *testing.T) {
	zero, one := raw(0, 1), raw(1, 1)
	pairs(6, 8000, func(a, b api.Rat) {
		self := canonical(value(a))
		if plus(a, zero) != self || times(a, one) != self || times(a, zero) != zero {
			t.Fatalf("P2.2: %#v with 0 and 1", a)
		}
		if rational.Sub(plus(a, b), b) != self || plus(rational.Sub(a, b), b) != self || rational.Sub(a, b) != plus(a, rational.Neg(b)) || plus(a, rational.Neg(a)) != zero {
			t.Fatalf("P2.2: subtracting %#v from %#v", b, a)
		}
		if value(b).Sign() == 0 {
			if q, e := rational.Quo(a, b); e != api.ErrDivide || q != (api.Rat{}) {
				t.Fatalf("P2.2: %#v by 0: %#v %d", a, q, e)
			}
			return
		}
		if quotient(t, times(a, b), b) != self || times(quotient(t, a, b), b) != self || times(b, quotient(t, one, b)) != one {
			t.Fatalf("P2.2: dividing %#v by %#v", a, b)
		}
	})
}
