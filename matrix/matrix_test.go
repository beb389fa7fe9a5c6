package matrix_test

import (
	"math"
	"math/rand"
	"slices"
	"testing"

	"groove/api"
	"groove/matrix"
	"groove/polynomial"
)

// P4.1: the examples of the chapter.
func TestExamples(t *testing.T) {
	a := [][]api.Int{row(1, 1), row(1, 0)}
	if m := power(t, a, 2); !same(m, [][]api.Int{row(2, 1), row(1, 1)}) {
		t.Errorf("P4.1: a^2: %v", m)
	}
	if d := det(t, a); d.Int64() != -1 {
		t.Errorf("P4.1: the determinant: %s", d)
	}
	if m := adjugate(t, a); !same(m, [][]api.Int{row(0, -1), row(-1, 1)}) {
		t.Errorf("P4.1: the adjugate: %v", m)
	}
	if p := characteristic(t, a); polynomial.Print(p) != "x^2 - x - 1" {
		t.Errorf("P4.1: the characteristic polynomial: %s", polynomial.Print(p))
	}
	if v := apply(t, a, row(5, 3)); !slices.Equal(v, row(8, 5)) {
		t.Errorf("P4.1: a applied to (5, 3): %v", v)
	}
}

// P4.1: what is a matrix, and the order of the errors of Check.
func TestCheck(t *testing.T) {
	for i, c := range invalid() {
		if e := matrix.Check(c.m); e != c.want {
			t.Errorf("P4.1: Check, case %d: %d, not %d", i, e, c.want)
		}
	}
	r := rand.New(rand.NewSource(1))
	for rows := 1; rows <= api.MaxSide; rows++ {
		for columns := 1; columns <= api.MaxSide; columns++ {
			if e := matrix.Check(random(r, rows, columns)); e != api.OK {
				t.Errorf("P4.1: Check of %d rows and %d columns: %d", rows, columns, e)
			}
		}
	}
	for _, a := range squares() {
		if e := matrix.Check(a); e != api.OK {
			t.Errorf("P4.1: Check of %v: %d", a, e)
		}
	}
}

// P4.1: the identities, and the numbers of rows that there are.
func TestIdentity(t *testing.T) {
	for n := 1; n <= api.MaxSide; n++ {
		if m, e := matrix.Identity(n); e != api.OK || !same(m, unit(n)) {
			t.Errorf("P4.1: the identity with %d rows: %v, %d", n, m, e)
		}
	}
	for _, n := range []int{0, -1, math.MinInt, api.MaxSide + 1, math.MaxInt} {
		if m, e := matrix.Identity(n); e != api.ErrRange || m != nil {
			t.Errorf("P4.1: the identity with %d rows: %v, %d", n, m, e)
		}
	}
}

// P4.1: sums, products and transposes against the definitions.
func TestArithmetic(t *testing.T) {
	sides(2, 600, func(r *rand.Rand, k, m, n int) {
		a, b, c := random(r, k, m), random(r, k, m), random(r, m, n)
		if s := add(t, a, b); !same(s, plus(a, b)) {
			t.Fatalf("P4.1: %v + %v: %v", a, b, s)
		}
		if p := mul(t, a, c); !same(p, times(a, c)) {
			t.Fatalf("P4.1: %v * %v: %v", a, c, p)
		}
		if f := transpose(t, a); !same(f, flipped(a)) {
			t.Fatalf("P4.1: the transpose of %v: %v", a, f)
		}
	})
}

// checkInvalid checks that all functions return ErrArgument, and nothing else, for what is no matrix, whatever the other argument is.
func checkInvalid(t *testing.T, m [][]api.Int) {
	t.Helper()
	others := [][][]api.Int{{row(1)}, {row(1, 2)}, {row(1), row(2)}, unit(2), unit(api.MaxSide), m}
	for _, f := range []func(a, b [][]api.Int) ([][]api.Int, api.Errno){matrix.Add, matrix.Mul} {
		for _, other := range others {
			s, e := f(m, other)
			u, g := f(other, m)
			if e != api.ErrArgument || g != api.ErrArgument || s != nil || u != nil {
				t.Errorf("P4.1: %v with %v: %v, %d and %v, %d", m, other, s, e, u, g)
			}
		}
	}
	for _, n := range []int{-1, 0, 1, 2, api.MaxPower, api.MaxPower + 1, math.MaxInt} {
		if p, e := matrix.Power(m, n); e != api.ErrArgument || p != nil {
			t.Errorf("P4.1: %v to the power %d: %v, %d", m, n, p, e)
		}
	}
	for _, v := range [][]api.Int{nil, row(1), row(1, 2), {{Neg: true}}, make([]api.Int, 1000)} {
		if w, e := matrix.Apply(m, v); e != api.ErrArgument || w != nil {
			t.Errorf("P4.1: %v applied to %v: %v, %d", m, v, w, e)
		}
	}
	for _, f := range []func(a [][]api.Int) ([][]api.Int, api.Errno){matrix.Transpose, matrix.Adjugate} {
		if s, e := f(m); e != api.ErrArgument || s != nil {
			t.Errorf("P4.1: the transpose or the adjugate of %v: %v, %d", m, s, e)
		}
	}
	if d, e := matrix.Det(m); e != api.ErrArgument || d != (api.Int{}) {
		t.Errorf("P4.1: the determinant of %v: %v, %d", m, d, e)
	}
	if p, e := matrix.Characteristic(m); e != api.ErrArgument || p != nil {
		t.Errorf("P4.1: the characteristic polynomial of %v: %v, %d", m, p, e)
	}
}

// P4.1: ErrArgument comes first where an argument is no matrix.
func TestInvalid(t *testing.T) {
	for _, c := range invalid() {
		checkInvalid(t, c.m)
	}
}

// P4.1: sizes that do not fit.
func TestSizes(t *testing.T) {
	const most = 5
	for i := range most * most * most * most {
		a, b := zero(1+i%most, 1+i/most%most), zero(1+i/most/most%most, 1+i/most/most/most)
		s, e := matrix.Add(a, b)
		if fits := len(a) == len(b) && len(a[0]) == len(b[0]); fits != (e == api.OK) || !fits && (e != api.ErrMismatch || s != nil) {
			t.Errorf("P4.1: %d * %d plus %d * %d: %v, %d", len(a), len(a[0]), len(b), len(b[0]), s, e)
		}
		p, e := matrix.Mul(a, b)
		if fits := len(a[0]) == len(b); fits != (e == api.OK) || !fits && (e != api.ErrMismatch || p != nil) {
			t.Errorf("P4.1: %d * %d times %d * %d: %v, %d", len(a), len(a[0]), len(b), len(b[0]), p, e)
		}
	}
}

// P4.1: matrices that are not square.
func TestNotSquare(t *testing.T) {
	for _, a := range [][][]api.Int{{row(1, 2)}, {row(1), row(2)}, zero(2, 3), zero(3, 2), zero(1, api.MaxSide), zero(api.MaxSide, 1), zero(api.MaxSide, api.MaxSide-1), {{twoTo(70000, 0), {}}}} {
		if d, e := matrix.Det(a); e != api.ErrMismatch || d != (api.Int{}) {
			t.Errorf("P4.1: the determinant of %d * %d: %v, %d", len(a), len(a[0]), d, e)
		}
		if m, e := matrix.Adjugate(a); e != api.ErrMismatch || m != nil {
			t.Errorf("P4.1: the adjugate of %d * %d: %v, %d", len(a), len(a[0]), m, e)
		}
		if p, e := matrix.Characteristic(a); e != api.ErrMismatch || p != nil {
			t.Errorf("P4.1: the characteristic polynomial of %d * %d: %v, %d", len(a), len(a[0]), p, e)
		}
		for _, n := range []int{0, 1, 2, -1, math.MinInt, api.MaxPower, api.MaxPower + 1} {
			if m, e := matrix.Power(a, n); e != api.ErrMismatch || m != nil {
				t.Errorf("P4.1: %d * %d to the power %d: %v, %d", len(a), len(a[0]), n, m, e)
			}
		}
	}
}

// results returns all matrices that functions return for two square ones of the same size, with the lists as matrices of one row.
func results(a, b [][]api.Int) [][][]api.Int {
	sum, _ := matrix.Add(a, b)
	product, _ := matrix.Mul(a, b)
	flip, _ := matrix.Transpose(a)
	none, _ := matrix.Power(a, 0)
	first, _ := matrix.Power(a, 1)
	third, _ := matrix.Power(a, 3)
	adjugate, _ := matrix.Adjugate(a)
	p, _ := matrix.Characteristic(a)
	column, _ := matrix.Apply(a, b[0])
	one, _ := matrix.Identity(len(a))
	return [][][]api.Int{sum, product, flip, none, first, third, adjugate, {p}, {column}, one}
}

// P4.1: arguments are not changed (R3); results have their own memory, and so have their rows.
func TestMemory(t *testing.T) {
	r := rand.New(rand.NewSource(3))
	eachSquare(4, 100, 6, func(a [][]api.Int) {
		b := random(r, len(a), len(a))
		if r.Intn(2) == 0 {
			b = zero(len(a), len(a))
		}
		x, y := clone(a), clone(b)
		got, want := results(x, y), results(a, b)
		for _, m := range got {
			for i, list := range m {
				left := clone(m[i+1:])
				clear(list[:cap(list)])
				if !same(m[i+1:], left) {
					t.Fatalf("P4.1: rows of a result for %v and %v share memory", a, b)
				}
			}
		}
		if !same(x, a) || !same(y, b) {
			t.Fatalf("P4.1: %v and %v have become %v and %v", a, b, x, y)
		}
		if again := results(x, y); !slices.EqualFunc(again, want, same) {
			t.Fatalf("P4.1: results for %v and %v have changed", a, b)
		}
	})
}

// P4.1: all entries that are returned are canonical.
func TestCanonical(t *testing.T) {
	r := rand.New(rand.NewSource(5))
	eachSquare(6, 300, 6, func(a [][]api.Int) {
		for i, m := range results(a, random(r, len(a), len(a))) {
			for _, list := range m {
				if slices.ContainsFunc(list, func(entry api.Int) bool { return entry != whole(size(entry)) }) {
					t.Fatalf("P4.1: result %d for %v: %v", i, a, m)
				}
			}
		}
	})
}
