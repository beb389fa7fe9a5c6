package matrix

import (
	"iter"
	"math/bits"

	"groove/api"
	"groove/integer"
)

// place says where an entry stands.
type place struct{ row, column int }

// entries yields the entries of a * b with their places, row by row.
func entries(a, b [][]api.Int) iter.Seq2[place, api.Int] {
	return func(yield func(place, api.Int) bool) {
		columns := transposed(b)
		for i, row := range a {
			for j, column := range columns {
				if !yield(place{row: i, column: j}, scalar(row, column)) {
					return
				}
			}
		}
	}
}

// scalar returns the sum of the products of the entries of a row and a column.
func scalar(row, column []api.Int) api.Int {
	var total api.Int
	for k, x := range row {
		// Matrices of graphs have many zeros.
		if !isZero(x) && !isZero(column[k]) {
			total = integer.Add(total, integer.Mul(x, column[k]))
		}
	}
	return total
}

// product returns a * b.
func product(a, b [][]api.Int) [][]api.Int {
	list := fill(len(a), len(b[0]), func(_, _ int) api.Int { return api.Int{} })
	for at, entry := range entries(a, b) {
		list[at.row][at.column] = entry
	}
	return list
}

// productTrace returns the sum of the diagonal of a * b.
func productTrace(a, b [][]api.Int) api.Int {
	var total api.Int
	for i, column := range transposed(b) {
		total = integer.Add(total, scalar(a[i], column))
	}
	return total
}

// power returns a to the power n, from 0 on.
func power(a [][]api.Int, n int) [][]api.Int {
	result := diagonal(len(a), integer.Of(1))
	for i := bits.Len(uint(n)) - 1; i >= 0; i-- {
		result = product(result, result)
		if n>>i&1 == 1 {
			result = product(result, a)
		}
	}
	return result
}

// sum returns a + b.
func sum(a, b [][]api.Int) [][]api.Int {
	list := make([][]api.Int, len(a))
	for i, row := range a {
		list[i] = combine(row, b[i], integer.Add)
	}
	return list
}

// diagonal returns the identity with n rows times a number.
func diagonal(n int, number api.Int) [][]api.Int {
	return fill(n, n, func(i, j int) api.Int {
		if i != j {
			return api.Int{}
		}
		return number
	})
}
