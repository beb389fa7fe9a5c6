package sturm

import (
	"iter"
	"slices"

	"groove/api"
	"groove/integer"
	"groove/polynomial"
)

// chain yields the elements of the Sturm chain of p, which is neither 0 nor too large.
func chain(p []api.Int) iter.Seq[[]api.Int] {
	return func(yield func([]api.Int) bool) {
		last, _ := polynomial.Squarefree(p)
		next := reduced(polynomial.Derivative(last))
		for yield(last) && len(next) > 0 {
			last, next = next, reduced(oppositeRest(last, next))
		}
	}
}

// oppositeRest returns a positive multiple of the opposite of the rest of a divided by b with rational coefficients.
func oppositeRest(a, b []api.Int) []api.Int {
	// The rest is the same for the opposite divisor. Where the leading coefficient of the divisor is positive, pseudo-division multiplies by a positive number.
	if isNegative(b[len(b)-1]) {
		b = polynomial.Sub(nil, b)
	}
	_, rest, _ := polynomial.Divide(a, b)
	// As in chains of subresultants, mostly the square of the leading coefficient of a divides the whole rest; when it is taken out first, Euclid's algorithm has much shorter numbers to work on.
	lead := a[len(a)-1]
	return quotient(polynomial.Sub(nil, rest), divisor(rest, integer.Mul(lead, lead)))
}

// reduced returns the reduced polynomial of which p is a multiple by a positive integer; 0 if p is 0.
func reduced(p []api.Int) []api.Int {
	return quotient(p, divisor(p, api.Int{}))
}

// divisor returns the greatest common divisor of the coefficients of p and of a number.
func divisor(p []api.Int, number api.Int) api.Int {
	for _, c := range p {
		number = integer.Gcd(number, c)
	}
	return number
}

// quotient returns p divided by a number that divides all its coefficients.
func quotient(p []api.Int, number api.Int) []api.Int {
	list := make([]api.Int, len(p))
	for exponent, c := range p {
		list[exponent], _, _ = integer.Div(c, number)
	}
	return list
}

// changes returns the number of changes of l at num / den, where den is greater than 0.
func changes(l [][]api.Int, num, den api.Int) int {
	number, last := 0, 0
	for _, p := range l {
		next := sign(p, num, den)
		if last*next < 0 {
			number++
		}
		if next != 0 {
			last = next
		}
	}
	return number
}

// sign returns -1, 0 or 1 for the value of p, which has any degree, at num / den, where den is greater than 0.
func sign(p []api.Int, num, den api.Int) int {
	// What is computed is the value times a power of den, which is an integer.
	value, scale := api.Int{}, integer.Of(1)
	for _, c := range slices.Backward(p) {
		value = integer.Add(integer.Mul(value, num), integer.Mul(c, scale))
		scale = integer.Mul(scale, den)
	}
	return integer.Compare(value, api.Int{})
}

// isNegative returns whether the value of a is less than 0.
func isNegative(a api.Int) bool {
	return integer.Compare(a, api.Int{}) < 0
}
