package rational

import (
	"groove/api"
	"groove/integer"
)

// isZero returns whether the value of a is 0.
func isZero(a api.Int) bool {
	return integer.Bits(a) == 0
}

// upright returns a number with the value of r and with Den greater than 0, which need not be in lowest terms.
func upright(r api.Rat) api.Rat {
	switch integer.Compare(r.Den, api.Int{}) {
	case 0:
		return Of(api.Int{})
	case -1:
		return api.Rat{Num: integer.Neg(r.Num), Den: integer.Neg(r.Den)}
	}
	return r
}

// lowest returns the canonical number with the value of r, whose Den is greater than 0.
func lowest(r api.Rat) api.Rat {
	divisor := integer.Gcd(r.Num, r.Den)
	num, _, _ := integer.Div(r.Num, divisor)
	den, _, _ := integer.Div(r.Den, divisor)
	return api.Rat{Num: num, Den: den}
}

// canonical returns the canonical number with the value of r.
func canonical(r api.Rat) api.Rat {
	return lowest(upright(r))
}

// Places of the operations in their table.
const (
	sum = iota
	difference
	product
	quotient
	operationCount
)

// operation computes the Num and the Den of a result, not in lowest terms, of two numbers whose Den is greater than 0.
type operation struct {
	num, den func(a, b api.Rat) api.Int
}

// operations returns the table of the operations.
func operations() [operationCount]operation {
	cross := func(a, b api.Rat) api.Int { return integer.Mul(a.Num, b.Den) }
	crossed := func(a, b api.Rat) api.Int { return integer.Mul(a.Den, b.Num) }
	both := func(a, b api.Rat) api.Int { return integer.Mul(a.Den, b.Den) }
	return [operationCount]operation{
		sum: {
			num: func(a, b api.Rat) api.Int { return integer.Add(cross(a, b), crossed(a, b)) },
			den: both,
		},
		difference: {
			num: func(a, b api.Rat) api.Int { return integer.Sub(cross(a, b), crossed(a, b)) },
			den: both,
		},
		product: {
			num: func(a, b api.Rat) api.Int { return integer.Mul(a.Num, b.Num) },
			den: both,
		},
		quotient: {num: cross, den: crossed},
	}
}

// apply returns the result of an operation, or ErrDivide, which only the quotient by 0 has.
func apply(place int, a, b api.Rat) (api.Rat, api.Errno) {
	op := operations()[place]
	x, y := upright(a), upright(b)
	return New(op.num(x, y), op.den(x, y))
}
