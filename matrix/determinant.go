package matrix

import (
	"slices"

	"groove/api"
	"groove/integer"
)

// determinant returns the determinant of a square matrix.
func determinant(a [][]api.Int) api.Int {
	negative, divisor := false, integer.Of(1)
	for len(a) > 1 {
		first := slices.IndexFunc(a, func(row []api.Int) bool { return !isZero(row[0]) })
		if first < 0 {
			return api.Int{}
		}
		if first > 0 {
			negative = !negative
		}
		a, divisor = eliminate(a, first, divisor), a[first][0]
	}
	if negative {
		return integer.Neg(a[0][0])
	}
	return a[0][0]
}

// eliminate returns what is left of the rows without the one with an index, which changes places with the first one, and without the first column, when multiples of this row have made that column 0.
func eliminate(a [][]api.Int, index int, divisor api.Int) [][]api.Int {
	pivot, left := a[index], slices.Clone(a)
	left[index] = a[0]
	left = left[1:]
	for i, row := range left {
		left[i] = combine(row[1:], pivot[1:], func(x, y api.Int) api.Int {
			// What is divided is a determinant of two rows of minors of the matrix; the minor that was the pivot before divides it (Bareiss), so that all numbers are minors.
			minor, _, _ := integer.Div(integer.Sub(integer.Mul(pivot[0], x), integer.Mul(row[0], y)), divisor)
			return minor
		})
	}
	return left
}

// resolve returns the characteristic polynomial and the adjugate of a square matrix.
func resolve(a [][]api.Int) ([]api.Int, [][]api.Int) {
	// The adjugate of x * 1 - a is a polynomial in x with matrices as coefficients. Since its product with x * 1 - a is the identity times the characteristic polynomial, each coefficient follows from the one before; and since its trace is the derivative of the characteristic polynomial, the next coefficient of that does, too (Faddeev and Leverrier). There are no pivots, so singular matrices are no special case.
	n := len(a)
	characteristic := make([]api.Int, n+1)
	characteristic[n] = integer.Of(1)
	part := diagonal(n, integer.Of(0))
	for exponent := n - 1; exponent >= 0; exponent-- {
		part = sum(product(a, part), diagonal(n, characteristic[exponent+1]))
		characteristic[exponent], _, _ = integer.Div(productTrace(a, part), integer.Of(exponent-n))
	}
	if n%2 == 0 {
		// The last coefficient is the adjugate of -a.
		part = fill(n, n, func(i, j int) api.Int { return integer.Neg(part[i][j]) })
	}
	return characteristic, part
}
