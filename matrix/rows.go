package matrix

// isRagged returns whether a row has another number of entries than the first one.
func isRagged[T any](rows [][]T) bool {
	for _, row := range rows {
		if len(row) != len(rows[0]) {
			return true
		}
	}
	return false
}

// fill returns rows with the entries that a function returns for their places. Each row has memory of its own.
func fill[T any](rows, columns int, entry func(row, column int) T) [][]T {
	list := make([][]T, rows)
	for i := range list {
		list[i] = make([]T, columns)
		for j := range list[i] {
			list[i][j] = entry(i, j)
		}
	}
	return list
}

// transposed returns the columns of rows, which have at least one.
func transposed[T any](rows [][]T) [][]T {
	return fill(len(rows[0]), len(rows), func(i, j int) T { return rows[j][i] })
}

// combine returns the row whose entries a function makes of those of x and y, which have equal lengths.
func combine[T any](x, y []T, with func(x, y T) T) []T {
	row := make([]T, len(x))
	for i := range row {
		row[i] = with(x[i], y[i])
	}
	return row
}
