package rational

import (
	"iter"

	"groove/api"
	"groove/integer"
)

// Simplest returns the simplest of all numbers from a to b.
func Simplest(a, b api.Rat) (api.Rat, api.Errno) {
	if Compare(a, b) > 0 {
		return api.Rat{}, api.ErrOrder
	}
	low, high, zero := upright(a), upright(b), Of(api.Int{})
	if Compare(low, zero) > 0 {
		return simplestPositive(low, high), api.OK
	}
	if Compare(high, zero) < 0 {
		return Neg(simplestPositive(Neg(high), Neg(low))), api.OK
	}
	return zero, api.OK
}

// simplestPositive returns the simplest number from low to high, where low is greater than 0 and at most high.
func simplestPositive(low, high api.Rat) api.Rat {
	// A continued fraction that is cut off behind any of its terms is in lowest terms.
	last := api.Rat{Num: integer.Of(0), Den: integer.Of(1)}
	next := api.Rat{Num: integer.Of(1), Den: integer.Of(0)}
	for term := range commonTerms(low, high) {
		last, next = next, api.Rat{
			Num: integer.Add(integer.Mul(term, next.Num), last.Num),
			Den: integer.Add(integer.Mul(term, next.Den), last.Den),
		}
	}
	return next
}

// commonTerms yields the terms of the continued fractions of low and high as long as they agree and neither fraction ends, and then the least integer from what is left of low on. Both numbers are greater than 0, with Den greater than 0, and low is at most high.
func commonTerms(low, high api.Rat) iter.Seq[api.Int] {
	return func(yield func(api.Int) bool) {
		for {
			term, lowRest, _ := integer.Div(low.Num, low.Den)
			highTerm, highRest, _ := integer.Div(high.Num, high.Den)
			if isZero(lowRest) {
				yield(term)
				return
			}
			if integer.Compare(term, highTerm) != 0 {
				yield(integer.Add(term, integer.Of(1)))
				return
			}
			if !yield(term) {
				return
			}
			// What is left of a greater number has the lesser reciprocal; high has a rest, since low has one and is not greater.
			low, high = api.Rat{Num: high.Den, Den: highRest}, api.Rat{Num: low.Den, Den: lowRest}
		}
	}
}
