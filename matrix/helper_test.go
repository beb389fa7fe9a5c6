package matrix_test

import (
	"math/big"
	"math/rand"
	"slices"
	"testing"

	"groove/api"
	"groove/matrix"
)

// size returns the value of an integer, by its definition.
func size(a api.Int) *big.Int {
	n := new(big.Int).SetBytes([]byte(a.Mag))
	if a.Neg {
		n.Neg(n)
	}
	return n
}

// whole returns the canonical integer with the value n, by its definition.
func whole(n *big.Int) api.Int {
	return api.Int{Neg: n.Sign() < 0, Mag: string(n.Bytes())}
}

// row returns a list of integers.
func row(list ...int64) []api.Int {
	var out []api.Int
	for _, n := range list {
		out = append(out, whole(big.NewInt(n)))
	}
	return out
}

// twoTo returns 2^n + d.
func twoTo(n uint, d int64) api.Int {
	p := new(big.Int).Lsh(big.NewInt(1), n)
	return whole(p.Add(p, big.NewInt(d)))
}

// opposite returns -a, for a that is not 0.
func opposite(a api.Int) api.Int {
	return api.Int{Neg: !a.Neg, Mag: a.Mag}
}

// build returns the matrix with the entries that a function returns for their places.
func build(rows, columns int, entry func(i, j int) *big.Int) [][]api.Int {
	var m [][]api.Int
	for i := range rows {
		var list []api.Int
		for j := range columns {
			list = append(list, whole(entry(i, j)))
		}
		m = append(m, list)
	}
	return m
}

// scaled returns the identity with n rows times a number.
func scaled(n int, number *big.Int) [][]api.Int {
	return build(n, n, func(i, j int) *big.Int {
		if i != j {
			return new(big.Int)
		}
		return number
	})
}

// unit returns the identity with n rows.
func unit(n int) [][]api.Int { return scaled(n, big.NewInt(1)) }

// zero returns a matrix of zeros.
func zero(rows, columns int) [][]api.Int {
	return build(rows, columns, func(_, _ int) *big.Int { return new(big.Int) })
}

// cycle returns the matrix that moves every element of a column by one place.
func cycle(n int) [][]api.Int {
	return build(n, n, func(i, j int) *big.Int {
		if (i+1)%n != j {
			return new(big.Int)
		}
		return big.NewInt(1)
	})
}

// same says whether two matrices are equal.
func same(a, b [][]api.Int) bool { return slices.EqualFunc(a, b, slices.Equal) }

// clone returns a matrix that is equal to m.
func clone(m [][]api.Int) [][]api.Int {
	var out [][]api.Int
	for _, list := range m {
		out = append(out, slices.Clone(list))
	}
	return out
}

// plus returns a + b, by the definition.
func plus(a, b [][]api.Int) [][]api.Int {
	return build(len(a), len(a[0]), func(i, j int) *big.Int { return new(big.Int).Add(size(a[i][j]), size(b[i][j])) })
}

// times returns a * b, by the definition.
func times(a, b [][]api.Int) [][]api.Int {
	return build(len(a), len(b[0]), func(i, j int) *big.Int {
		sum := new(big.Int)
		for k := range b {
			sum.Add(sum, new(big.Int).Mul(size(a[i][k]), size(b[k][j])))
		}
		return sum
	})
}

// flipped returns the transpose of a, by the definition.
func flipped(a [][]api.Int) [][]api.Int {
	return build(len(a[0]), len(a), func(i, j int) *big.Int { return size(a[j][i]) })
}

// trace returns the sum of the diagonal of a.
func trace(a [][]api.Int) *big.Int {
	sum := new(big.Int)
	for i := range a {
		sum.Add(sum, size(a[i][i]))
	}
	return sum
}

// without returns a without one row and one column.
func without(a [][]api.Int, i, j int) [][]api.Int {
	out := slices.Delete(clone(a), i, i+1)
	for k := range out {
		out[k] = slices.Delete(out[k], j, j+1)
	}
	return out
}

// expand returns the determinant of a with few rows, by its expansion along the first one; it is 1 without any row.
func expand(a [][]api.Int) *big.Int {
	if len(a) == 0 {
		return big.NewInt(1)
	}
	sum := new(big.Int)
	for j, entry := range a[0] {
		if entry.Mag == "" {
			continue
		}
		term := new(big.Int).Mul(size(entry), expand(without(a, 0, j)))
		if j%2 == 1 {
			term.Neg(term)
		}
		sum.Add(sum, term)
	}
	return sum
}

// cofactors returns the adjugate of a with few rows, by its definition.
func cofactors(a [][]api.Int) [][]api.Int {
	return build(len(a), len(a), func(i, j int) *big.Int {
		minor := expand(without(a, j, i))
		if (i+j)%2 == 1 {
			minor.Neg(minor)
		}
		return minor
	})
}

// reduce returns the determinant of a with any number of rows, by elimination with rational numbers.
func reduce(a [][]api.Int) *big.Int {
	var rows [][]*big.Rat
	for _, list := range a {
		var fractions []*big.Rat
		for _, entry := range list {
			fractions = append(fractions, new(big.Rat).SetInt(size(entry)))
		}
		rows = append(rows, fractions)
	}
	result := big.NewRat(1, 1)
	for k := range rows {
		pivot := slices.IndexFunc(rows[k:], func(list []*big.Rat) bool { return list[k].Sign() != 0 })
		if pivot < 0 {
			return new(big.Int)
		}
		if pivot > 0 {
			rows[k], rows[k+pivot] = rows[k+pivot], rows[k]
			result.Neg(result)
		}
		result.Mul(result, rows[k][k])
		for _, list := range rows[k+1:] {
			factor := new(big.Rat).Quo(list[k], rows[k][k])
			for j := k; j < len(rows); j++ {
				list[j] = new(big.Rat).Sub(list[j], new(big.Rat).Mul(factor, rows[k][j]))
			}
		}
	}
	return result.Num()
}

// determinant returns the determinant of a, by its definition if there are few rows.
func determinant(a [][]api.Int) *big.Int {
	if len(a) <= 5 {
		return expand(a)
	}
	return reduce(a)
}

// characteristicAt returns the determinant of x * 1 - a.
func characteristicAt(a [][]api.Int, x int64) *big.Int {
	return determinant(build(len(a), len(a), func(i, j int) *big.Int {
		n := new(big.Int).Neg(size(a[i][j]))
		if i == j {
			n.Add(n, big.NewInt(x))
		}
		return n
	}))
}

// number returns a number whose absolute value has up to so many bits, often 0.
func number(r *rand.Rand, bits uint) *big.Int {
	if r.Intn(4) == 0 {
		return new(big.Int)
	}
	n := new(big.Int).Rand(r, new(big.Int).Lsh(big.NewInt(1), bits))
	if r.Intn(2) == 0 {
		n.Neg(n)
	}
	return n
}

// random returns a matrix of small or of large entries.
func random(r *rand.Rand, rows, columns int) [][]api.Int {
	bits := []uint{1, 2, 4, 9, 70}[r.Intn(5)]
	return build(rows, columns, func(_, _ int) *big.Int { return number(r, bits) })
}

// singular returns a square matrix whose rank is at most rank: a product through so few columns.
func singular(r *rand.Rand, n, rank int) [][]api.Int {
	if rank == 0 {
		return zero(n, n)
	}
	return times(random(r, n, rank), random(r, rank, n))
}

// squares returns square matrices at which something changes.
func squares() [][][]api.Int {
	list := [][][]api.Int{
		{row(0)}, {row(1)}, {row(-1)}, {row(7)}, {row(-256)}, {{twoTo(64, 0)}}, {{opposite(twoTo(64, -1))}},
		{row(1, 1), row(1, 0)}, {row(0, 1), row(1, 0)}, {row(0, 1), row(0, 0)}, {row(1, 2), row(2, 4)}, {row(0, 0), row(3, 4)}, {row(3, 4), row(0, 0)}, {row(0, 3), row(0, 4)}, {row(2, 0), row(0, -3)}, {row(-1, -2), row(-3, -4)},
		{{twoTo(64, 1), twoTo(32, 0)}, {opposite(twoTo(32, 0)), twoTo(64, -1)}},
		{row(2, 0, 1), row(1, 3, 0), row(0, -1, 1)}, {row(1, 2, 3), row(4, 5, 6), row(7, 8, 9)}, {row(0, 0, 1), row(0, 1, 0), row(1, 0, 0)}, {row(0, 2, 3), row(0, 0, 5), row(7, 0, 0)},
		// The second pivot is 0, and stands in the last row.
		{row(1, 2, 3), row(2, 4, 5), row(-1, 1, 1)}, {row(1, 2, 3), row(2, 4, 5), row(3, 6, 1)}, {row(1, 2, 3), row(2, 4, 6), row(3, 6, 9)},
		{row(0, 1, 0, 0), row(0, 0, 1, 0), row(0, 0, 0, 1), row(0, 0, 0, 0)}, {row(2, 1, 0, 0), row(0, 2, 0, 0), row(0, 0, 3, 0), row(0, 0, 0, 3)},
		{row(-2, 1, 3, 5), row(-4, 2, 1, 1), row(6, -3, 2, 0), row(0, 4, 0, -1)},
	}
	for _, n := range []int{1, 2, 3, 4, 5} {
		list = append(list, zero(n, n), unit(n), cycle(n), scaled(n, big.NewInt(-3)))
	}
	return list
}

// eachSquare calls f for the square matrices at which something changes, and for random ones with up to most rows, some of them singular.
func eachSquare(seed int64, count, most int, f func(a [][]api.Int)) {
	for _, a := range squares() {
		f(a)
	}
	r := rand.New(rand.NewSource(seed))
	for i := range count {
		n := 1 + i%most
		if i%3 == 0 {
			f(singular(r, n, r.Intn(n+1)))
		} else {
			f(random(r, n, n))
		}
	}
}

// sides calls f for three numbers of rows or columns, the least and the greatest ones among them.
func sides(seed int64, count int, f func(r *rand.Rand, k, m, n int)) {
	r := rand.New(rand.NewSource(seed))
	for _, c := range [][3]int{{1, 1, 1}, {1, 2, 1}, {2, 1, 2}, {1, 1, 5}, {5, 1, 1}, {1, 5, 5}, {1, api.MaxSide, 1}, {api.MaxSide, 1, api.MaxSide}, {1, 1, api.MaxSide}, {api.MaxSide, 3, 2}, {2, 3, api.MaxSide}, {3, api.MaxSide, 2}} {
		f(r, c[0], c[1], c[2])
	}
	for range count {
		f(r, 1+r.Intn(6), 1+r.Intn(6), 1+r.Intn(6))
	}
}

// invalid returns what is no matrix, with the error that Check returns for it.
func invalid() []struct {
	m    [][]api.Int
	want api.Errno
} {
	const over = api.MaxSide + 1
	minus, padded := api.Int{Neg: true}, api.Int{Mag: "\x00\x07"}
	type list = []struct {
		m    [][]api.Int
		want api.Errno
	}
	return list{
		{nil, api.ErrEmpty}, {[][]api.Int{}, api.ErrEmpty}, {[][]api.Int{nil}, api.ErrEmpty}, {[][]api.Int{{}}, api.ErrEmpty}, {[][]api.Int{nil, row(1)}, api.ErrEmpty},
		// ErrEmpty comes before ErrLimit, and before what is wrong in other rows.
		{make([][]api.Int, over), api.ErrEmpty}, {append([][]api.Int{nil}, slices.Repeat([][]api.Int{row(1)}, over)...), api.ErrEmpty}, {[][]api.Int{nil, {minus}, make([]api.Int, over)}, api.ErrEmpty},
		{zero(over, 1), api.ErrLimit}, {zero(1, over), api.ErrLimit}, {zero(over, over), api.ErrLimit}, {zero(over, api.MaxSide), api.ErrLimit}, {zero(api.MaxSide, over), api.ErrLimit}, {zero(1000, 2), api.ErrLimit}, {zero(2, 1000), api.ErrLimit},
		// ErrLimit comes before ErrMismatch and ErrArgument.
		{append([][]api.Int{row(1)}, make([][]api.Int, over)...), api.ErrLimit}, {[][]api.Int{make([]api.Int, over), row(1)}, api.ErrLimit}, {slices.Repeat([][]api.Int{{minus}}, over), api.ErrLimit}, {[][]api.Int{append(make([]api.Int, over), minus)}, api.ErrLimit},
		{[][]api.Int{row(1, 2), row(1)}, api.ErrMismatch}, {[][]api.Int{row(1), row(1, 2)}, api.ErrMismatch}, {[][]api.Int{row(1), nil}, api.ErrMismatch}, {[][]api.Int{row(1, 2), row(3, 4), row(5)}, api.ErrMismatch}, {[][]api.Int{row(1, 2), row(3), row(5, 6)}, api.ErrMismatch}, {[][]api.Int{row(1), make([]api.Int, over)}, api.ErrMismatch},
		// ErrMismatch comes before ErrArgument, even if the entry comes first.
		{[][]api.Int{{minus, padded}, row(1)}, api.ErrMismatch}, {[][]api.Int{row(1, 2), {padded}}, api.ErrMismatch}, {[][]api.Int{{minus}, row(1), nil}, api.ErrMismatch},
		{[][]api.Int{{minus}}, api.ErrArgument}, {[][]api.Int{{padded}}, api.ErrArgument}, {[][]api.Int{{{Mag: "\x00"}}}, api.ErrArgument}, {[][]api.Int{{{Neg: true, Mag: "\x00\x01"}}}, api.ErrArgument},
		{[][]api.Int{row(1, 2), {whole(big.NewInt(3)), minus}}, api.ErrArgument}, {[][]api.Int{{padded, {}}, row(1, 2)}, api.ErrArgument}, {[][]api.Int{row(1, 2, 3), {{}, {Neg: true, Mag: "\x00"}, {}}}, api.ErrArgument}, {append(zero(api.MaxSide-1, 1), []api.Int{minus}), api.ErrArgument},
	}
}

// mul returns a * b, which has no error.
func mul(t *testing.T, a, b [][]api.Int) [][]api.Int {
	t.Helper()
	m, e := matrix.Mul(a, b)
	if e != api.OK {
		t.Fatalf("P4.1: %v * %v: %d", a, b, e)
	}
	return m
}

// add returns a + b, which has no error.
func add(t *testing.T, a, b [][]api.Int) [][]api.Int {
	t.Helper()
	m, e := matrix.Add(a, b)
	if e != api.OK {
		t.Fatalf("P4.1: %v + %v: %d", a, b, e)
	}
	return m
}

// transpose returns the transpose of a, which has no error.
func transpose(t *testing.T, a [][]api.Int) [][]api.Int {
	t.Helper()
	m, e := matrix.Transpose(a)
	if e != api.OK {
		t.Fatalf("P4.1: the transpose of %v: %d", a, e)
	}
	return m
}

// power returns a to the power n, which has no error.
func power(t *testing.T, a [][]api.Int, n int) [][]api.Int {
	t.Helper()
	m, e := matrix.Power(a, n)
	if e != api.OK {
		t.Fatalf("P4.6: %v to the power %d: %d", a, n, e)
	}
	return m
}

// det returns the determinant of a, which has no error.
func det(t *testing.T, a [][]api.Int) *big.Int {
	t.Helper()
	d, e := matrix.Det(a)
	if e != api.OK || d != whole(size(d)) {
		t.Fatalf("P4.3: the determinant of %v: %#v, %d", a, d, e)
	}
	return size(d)
}

// adjugate returns the adjugate of a, which has no error.
func adjugate(t *testing.T, a [][]api.Int) [][]api.Int {
	t.Helper()
	m, e := matrix.Adjugate(a)
	if e != api.OK {
		t.Fatalf("P4.4: the adjugate of %v: %d", a, e)
	}
	return m
}

// characteristic returns the characteristic polynomial of a, which has no error.
func characteristic(t *testing.T, a [][]api.Int) []api.Int {
	t.Helper()
	p, e := matrix.Characteristic(a)
	if e != api.OK {
		t.Fatalf("P4.5: the characteristic polynomial of %v: %d", a, e)
	}
	return p
}

// apply returns a applied to v, which has no error.
func apply(t *testing.T, a [][]api.Int, v []api.Int) []api.Int {
	t.Helper()
	w, e := matrix.Apply(a, v)
	if e != api.OK {
		t.Fatalf("P4.7: %v applied to %v: %d", a, v, e)
	}
	return w
}
