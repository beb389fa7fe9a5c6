package algebraic

import (
	"slices"

	"groove/api"
	"groove/integer"
	"groove/polynomial"
	"groove/rational"
	"groove/sturm"
)

// order returns the sign of x - y, for numbers y of any kind that can be compared with rational numbers, and at which signs of polynomials can be told.
func order[N any](x api.Real, y N, compare func(y N, r api.Rat) int, signAt func(p []api.Int, y N) int) int {
	if compare(y, x.In.Low) <= 0 {
		return 1
	}
	if compare(y, x.In.High) > 0 {
		return -1
	}
	// Within the interval, Poly has the sign that it has at High just above the value. Where the value is High, this is 0, and it has it nowhere else.
	switch signAt(x.Poly, y) {
	case 0:
		return 0
	case signAtRat(x.Poly, x.In.High):
		return -1
	}
	return 1
}

// compareRat returns the sign of x - r, where Den of r is greater than 0.
func compareRat(x api.Real, r api.Rat) int {
	return order(x, r, rational.Compare, signAtRat)
}

// signAtRat returns the sign of the value of p at r, whose Den is greater than 0.
func signAtRat(p []api.Int, r api.Rat) int {
	// What is computed is the value times a power of Den, which is an integer.
	value, scale := api.Int{}, integer.Of(1)
	for _, c := range slices.Backward(p) {
		value = integer.Add(integer.Mul(value, r.Num), integer.Mul(c, scale))
		scale = integer.Mul(scale, r.Den)
	}
	return integer.Compare(value, api.Int{})
}

// signAtReal returns the sign of the value of p, which is not too large, at x.
func signAtReal(p []api.Int, x api.Real) int {
	if len(x.Poly) == 2 {
		// The value is rational, and need not be searched for.
		return signAtRat(p, api.Rat{Num: integer.Neg(x.Poly[0]), Den: x.Poly[1]})
	}
	if isRoot(p, x) {
		return 0
	}
	chain, _ := sturm.Chain(p)
	// Without a root of p in the interval, p has the same sign everywhere in it.
	in := narrow(x, func(i api.Interval) bool { return count(chain, i) == 0 })
	return signAtRat(p, in.High)
}

// isRoot returns whether p, which is not too large, is 0 at x.
func isRoot(p []api.Int, x api.Real) bool {
	// Poly has no other root in the interval, and so the common divisor has none, either.
	common, _ := polynomial.Gcd(p, x.Poly)
	number, _ := sturm.Count(common, x.In.Low, x.In.High)
	return number > 0
}

// count returns the number of roots in an interval of the polynomial with a Sturm chain.
func count(chain [][]api.Int, i api.Interval) int {
	return sturm.Changes(chain, i.Low) - sturm.Changes(chain, i.High)
}

// narrow halves the interval of x, and then always the half with the value, until it is narrow enough.
func narrow(x api.Real, isEnough func(i api.Interval) bool) api.Interval {
	half := api.Rat{Num: integer.Of(1), Den: integer.Of(2)}
	var halve func(i api.Interval) api.Interval
	halve = func(i api.Interval) api.Interval {
		if isEnough(i) {
			return i
		}
		middle := rational.Mul(rational.Add(i.Low, i.High), half)
		if compareRat(x, middle) <= 0 {
			return halve(api.Interval{Low: i.Low, High: middle})
		}
		return halve(api.Interval{Low: middle, High: i.High})
	}
	return halve(x.In)
}

// multiples returns how often 1 / scale, where scale is greater than 0, goes into x: the greatest integer that is at most scale * x.
func multiples(x api.Real, scale api.Int) api.Int {
	one := integer.Of(1)
	unit := api.Rat{Num: one, Den: scale}
	in := narrow(x, func(i api.Interval) bool { return rational.Compare(rational.Sub(i.High, i.Low), unit) <= 0 })
	// No more than one multiple lies in the interval.
	number := rational.Floor(rational.Mul(in.High, rational.Of(scale)))
	if compareRat(x, api.Rat{Num: number, Den: scale}) < 0 {
		return integer.Sub(number, one)
	}
	return number
}
