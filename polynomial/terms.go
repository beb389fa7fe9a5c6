package polynomial

import (
	"iter"

	"groove/api"
	"groove/integer"
)

// terms yields the exponents with coefficients that are not 0, the greatest one first, with these coefficients.
func terms(p []api.Int) iter.Seq2[int, api.Int] {
	return func(yield func(int, api.Int) bool) {
		for exponent := len(p) - 1; exponent >= 0; exponent-- {
			if integer.Bits(p[exponent]) > 0 && !yield(exponent, p[exponent]) {
				return
			}
		}
	}
}

// coefficient returns the coefficient of an exponent; 0 if the list has none.
func coefficient(p []api.Int, exponent int) api.Int {
	if exponent < 0 || exponent >= len(p) {
		return api.Int{}
	}
	return p[exponent]
}

// leading returns the leading coefficient; 0 if p is 0.
func leading(p []api.Int) api.Int {
	return coefficient(p, Degree(p))
}

// isNegative returns whether the value of a is less than 0.
func isNegative(a api.Int) bool {
	return integer.Compare(a, api.Int{}) < 0
}

// isLarge returns whether p is too large.
func isLarge(p []api.Int) bool {
	return Degree(p) > api.MaxDegree
}

// blank returns a list for the coefficients up to a degree, all of them 0; an empty one if the degree is negative.
func blank(degree int) []api.Int {
	if degree < 0 {
		return nil
	}
	return make([]api.Int, degree+1)
}

// multiple returns factor * x^shift * p.
func multiple(p []api.Int, factor api.Int, shift int) []api.Int {
	if integer.Bits(factor) == 0 || Degree(p) < 0 {
		return nil
	}
	list := blank(Degree(p) + shift)
	for exponent, c := range terms(p) {
		list[exponent+shift] = integer.Mul(c, factor)
	}
	return list
}

// exactQuotient returns p divided by a number that is not 0 and divides all coefficients.
func exactQuotient(p []api.Int, divisor api.Int) []api.Int {
	list := blank(Degree(p))
	for exponent, c := range terms(p) {
		list[exponent], _, _ = integer.Div(c, divisor)
	}
	return list
}

// primitive returns the primitive part of p; 0 if p is 0.
func primitive(p []api.Int) []api.Int {
	var divisor api.Int
	for _, c := range terms(p) {
		divisor = integer.Gcd(divisor, c)
	}
	if isNegative(leading(p)) {
		divisor = integer.Neg(divisor)
	}
	return exactQuotient(p, divisor)
}
