package polynomial

import (
	"groove/api"
	"groove/integer"
)

// Divide returns the quotient and the rest of the pseudo-division of a by b.
func Divide(a, b []api.Int) ([]api.Int, []api.Int, api.Errno) {
	if isLarge(a) || isLarge(b) {
		return nil, nil, api.ErrLimit
	}
	if Degree(b) < 0 {
		return nil, nil, api.ErrDivide
	}
	quotient, rest := divide(a, b)
	return quotient, rest, api.OK
}

// divide returns the quotient and the rest of the pseudo-division of a by b, which is not 0.
func divide(a, b []api.Int) ([]api.Int, []api.Int) {
	degree := Degree(b)
	lead, one := leading(b), []api.Int{integer.Of(1)}
	var quotient []api.Int
	rest := Canonical(a)
	for place := Degree(a) - degree; place >= 0; place-- {
		// A step multiplies by the leading coefficient even if it takes nothing away, since the power of it in the equation is fixed.
		factor := coefficient(rest, place+degree)
		quotient = Add(multiple(quotient, lead, 0), multiple(one, factor, place))
		rest = Sub(multiple(rest, lead, 0), multiple(b, factor, place))
	}
	return quotient, rest
}

// Gcd returns the greatest common divisor that is primitive; 0 if both are 0.
func Gcd(a, b []api.Int) ([]api.Int, api.Errno) {
	if isLarge(a) || isLarge(b) {
		return nil, api.ErrLimit
	}
	return commonDivisor(a, b), api.OK
}

// commonDivisor returns the greatest common divisor that is primitive; 0 if both are 0.
func commonDivisor(a, b []api.Int) []api.Int {
	x, y := primitive(a), primitive(b)
	if Degree(x) < Degree(y) {
		x, y = y, x
	}
	// The coefficients of mere rests would grow exponentially. A number that is known from the leading coefficients before divides all those of a rest; what is left are subresultants, whose coefficients are determinants.
	lead, height := integer.Of(1), integer.Of(1)
	for Degree(y) > 0 {
		gap := Degree(x) - Degree(y)
		_, rest := divide(x, y)
		x, y = y, exactQuotient(rest, integer.Mul(lead, power(height, gap)))
		lead = leading(x)
		if gap > 0 {
			height, _, _ = integer.Div(power(lead, gap), power(height, gap-1))
		}
	}
	if Degree(y) == 0 {
		return primitive(y)
	}
	return primitive(x)
}

// power returns a to the power n, which is not limited as that of layer 1.
func power(a api.Int, n int) api.Int {
	result := integer.Of(1)
	for range n {
		result = integer.Mul(result, a)
	}
	return result
}

// Squarefree returns the primitive polynomial with the roots of p, each of them simple.
func Squarefree(p []api.Int) ([]api.Int, api.Errno) {
	if isLarge(p) {
		return nil, api.ErrLimit
	}
	if Degree(p) < 0 {
		return nil, api.ErrArgument
	}
	// Of each root the common divisor with the derivative leaves out just one.
	quotient, _ := divide(p, commonDivisor(p, Derivative(p)))
	return primitive(quotient), api.OK
}
