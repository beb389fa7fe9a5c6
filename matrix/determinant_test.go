package matrix_test

import (
	"math/big"
	"math/rand"
	"slices"
	"testing"

	"groove/api"
	"groove/integer"
	"groove/matrix"
)

// P4.3: determinants against their expansion.
func TestDeterminants(t *testing.T) {
	eachSquare(21, 900, 6, func(a [][]api.Int) {
		if d := det(t, a); d.Cmp(expand(a)) != 0 {
			t.Fatalf("P4.3: the determinant of %v: %s", a, d)
		}
	})
}

// P4.3: determinants of many rows against the elimination with rational numbers.
func TestLargeDeterminants(t *testing.T) {
	r := rand.New(rand.NewSource(22))
	for _, n := range []int{7, 10, 16, 25, api.MaxSide - 1, api.MaxSide} {
		for _, a := range [][][]api.Int{build(n, n, func(_, _ int) *big.Int { return number(r, 5) }), singular(r, n, n-1), singular(r, n, 3)} {
			if d := det(t, a); d.Cmp(reduce(a)) != 0 {
				t.Fatalf("P4.3: the determinant of %v: %s", a, d)
			}
		}
	}
}

// P4.3: the determinant of a product is the product of the determinants, and that of the transpose is the same.
func TestProductDeterminant(t *testing.T) {
	r := rand.New(rand.NewSource(23))
	check := func(a, b [][]api.Int) {
		if det(t, mul(t, a, b)).Cmp(new(big.Int).Mul(det(t, a), det(t, b))) != 0 {
			t.Fatalf("P4.3: the determinant of %v * %v", a, b)
		}
		if det(t, transpose(t, a)).Cmp(det(t, a)) != 0 {
			t.Fatalf("P4.3: the determinant of the transpose of %v", a)
		}
	}
	eachSquare(24, 500, 8, func(a [][]api.Int) { check(a, random(r, len(a), len(a))) })
	for range 3 {
		check(random(r, api.MaxSide, api.MaxSide), random(r, api.MaxSide, api.MaxSide))
	}
}

// P4.3: known determinants.
func TestKnownDeterminants(t *testing.T) {
	for n := 1; n <= api.MaxSide; n++ {
		// A cycle of n elements is made of n - 1 swaps.
		swaps, opposites, diagonal := big.NewInt(1), big.NewInt(-1), big.NewInt(1)
		if n%2 == 0 {
			swaps, opposites = opposites, swaps
		}
		triangle := zero(n, n)
		for i := range n {
			for j := range i {
				triangle[i][j] = whole(big.NewInt(int64(j - 2*i)))
			}
			triangle[i][i] = whole(big.NewInt(int64(-i - 1)))
			diagonal.Mul(diagonal, big.NewInt(int64(-i-1)))
		}
		for _, c := range []struct {
			a    [][]api.Int
			want *big.Int
		}{
			{unit(n), big.NewInt(1)}, {scaled(n, big.NewInt(-1)), opposites}, {cycle(n), swaps}, {flipped(cycle(n)), swaps}, {triangle, diagonal}, {flipped(triangle), diagonal},
		} {
			if d := det(t, c.a); d.Cmp(c.want) != 0 {
				t.Errorf("P4.3: the determinant of %v: %s, not %s", c.a, d, c.want)
			}
		}
	}
}

// P4.3: rows that change places change the sign; equal rows, rows of zeros and columns of zeros make the determinant 0.
func TestRows(t *testing.T) {
	r := rand.New(rand.NewSource(25))
	for i := range 200 {
		n := 2 + i%7
		a := random(r, n, n)
		d := det(t, a)
		k := 1 + r.Intn(n-1)
		other := clone(a)
		other[0], other[k] = other[k], other[0]
		if det(t, other).Cmp(new(big.Int).Neg(d)) != 0 {
			t.Fatalf("P4.3: the determinants of %v and %v", a, other)
		}
		equal, empty := clone(a), clone(a)
		equal[0] = slices.Clone(equal[k])
		empty[k] = make([]api.Int, n)
		for _, m := range [][][]api.Int{equal, empty, transpose(t, equal), transpose(t, empty), zero(n, n)} {
			if det(t, m).Sign() != 0 {
				t.Fatalf("P4.3: the determinant of %v: %s", m, det(t, m))
			}
		}
	}
}

// P4.4: adjugates against their definition.
func TestAdjugates(t *testing.T) {
	eachSquare(31, 400, 5, func(a [][]api.Int) {
		if m := adjugate(t, a); !same(m, cofactors(a)) {
			t.Fatalf("P4.4: the adjugate of %v: %v", a, m)
		}
	})
}

// checkAdjugate checks the products of a matrix with its adjugate on both sides.
func checkAdjugate(t *testing.T, a [][]api.Int) {
	t.Helper()
	m, want := adjugate(t, a), scaled(len(a), det(t, a))
	if !same(mul(t, a, m), want) || !same(mul(t, m, a), want) {
		t.Fatalf("P4.4: %v times its adjugate %v", a, m)
	}
}

// P4.4: a matrix times its adjugate is the identity times the determinant.
func TestAdjugateProducts(t *testing.T) {
	eachSquare(32, 300, 10, func(a [][]api.Int) { checkAdjugate(t, a) })
	r := rand.New(rand.NewSource(33))
	for _, n := range []int{api.MaxSide - 1, api.MaxSide} {
		checkAdjugate(t, build(n, n, func(_, _ int) *big.Int { return number(r, 3) }))
	}
	checkAdjugate(t, cycle(api.MaxSide))
	checkAdjugate(t, zero(api.MaxSide, api.MaxSide))
}

// P4.4: one row has the adjugate 1, even if it is 0; a matrix that is far from regular has the adjugate 0, another one does not.
func TestSingularAdjugates(t *testing.T) {
	for _, a := range []api.Int{{}, twoTo(0, 0), opposite(twoTo(3, 0)), twoTo(100, 0)} {
		if m := adjugate(t, [][]api.Int{{a}}); !same(m, [][]api.Int{row(1)}) {
			t.Errorf("P4.4: the adjugate of %v: %v", a, m)
		}
	}
	for n := 2; n <= 12; n++ {
		one := zero(n, n)
		one[n-1][0] = twoTo(0, 0)
		a := unit(n)
		a[0] = make([]api.Int, n)
		want := zero(n, n)
		want[0][0] = twoTo(0, 0)
		if m := adjugate(t, a); !same(m, want) {
			t.Errorf("P4.4: the adjugate of %v: %v", a, m)
		}
		if m := adjugate(t, one); n > 2 && !same(m, zero(n, n)) {
			t.Errorf("P4.4: the adjugate of %v: %v", one, m)
		}
	}
}

// P4.5: characteristic polynomials against the definition: n numbers and one more determine a polynomial of the degree n.
func TestCharacteristic(t *testing.T) {
	check := func(a [][]api.Int) {
		p := characteristic(t, a)
		if len(p) != len(a)+1 || p[len(a)] != twoTo(0, 0) {
			t.Fatalf("P4.5: the characteristic polynomial of %v: %v", a, p)
		}
		for x := range int64(len(p)) {
			value := new(big.Int)
			for i := len(p) - 1; i >= 0; i-- {
				value.Add(value.Mul(value, big.NewInt(x)), size(p[i]))
			}
			if value.Cmp(characteristicAt(a, x)) != 0 {
				t.Fatalf("P4.5: the characteristic polynomial of %v: %v", a, p)
			}
		}
	}
	eachSquare(41, 300, 6, check)
	r := rand.New(rand.NewSource(42))
	for _, n := range []int{11, 17, api.MaxSide} {
		check(build(n, n, func(_, _ int) *big.Int { return number(r, 1) }))
	}
}

// checkCayley checks that a is a root of its characteristic polynomial, and two of the coefficients.
func checkCayley(t *testing.T, a [][]api.Int) {
	t.Helper()
	n, p := len(a), characteristic(t, a)
	if len(p) != n+1 || p[n] != integer.Of(1) {
		t.Fatalf("P4.5: the characteristic polynomial of %v: %v", a, p)
	}
	value := zero(n, n)
	for i := n; i >= 0; i-- {
		value = add(t, mul(t, value, a), scaled(n, size(p[i])))
	}
	if !same(value, zero(n, n)) {
		t.Fatalf("P4.5: %v is no root of %v", a, p)
	}
	constant := det(t, a)
	if n%2 == 1 {
		constant.Neg(constant)
	}
	if size(p[0]).Cmp(constant) != 0 || size(p[n-1]).Cmp(new(big.Int).Neg(trace(a))) != 0 {
		t.Fatalf("P4.5: the constant term or the second coefficient of %v for %v", p, a)
	}
}

// P4.5: Cayley and Hamilton.
func TestCayley(t *testing.T) {
	eachSquare(43, 400, 9, func(a [][]api.Int) { checkCayley(t, a) })
	r := rand.New(rand.NewSource(44))
	for _, n := range []int{api.MaxSide - 1, api.MaxSide} {
		checkCayley(t, build(n, n, func(_, _ int) *big.Int { return number(r, 4) }))
		checkCayley(t, singular(r, n, 5))
		checkCayley(t, zero(n, n))
	}
}

// P4.5: known characteristic polynomials.
func TestKnownCharacteristic(t *testing.T) {
	binomials := row(1)
	for n := 1; n <= api.MaxSide; n++ {
		power, unity := make([]api.Int, n+1), make([]api.Int, n+1)
		power[n], unity[n], unity[0] = integer.Of(1), integer.Of(1), integer.Of(-1)
		// (x - 1)^n
		next := append(row(0), binomials...)
		for i, c := range binomials {
			next[i] = integer.Sub(next[i], c)
		}
		binomials = next
		shift := cycle(n)
		shift[n-1][0] = api.Int{}
		for _, c := range []struct {
			a    [][]api.Int
			want []api.Int
		}{{zero(n, n), power}, {shift, power}, {cycle(n), unity}, {unit(n), binomials}} {
			if p, e := matrix.Characteristic(c.a); e != api.OK || !slices.Equal(p, c.want) {
				t.Errorf("P4.5: the characteristic polynomial of %v: %v, %d", c.a, p, e)
			}
		}
	}
}
