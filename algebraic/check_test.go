package algebraic_test

import (
	"math/big"
	"math/rand"
	"slices"
	"strings"
	"testing"

	"groove/algebraic"
	"groove/api"
	"groove/polynomial"
)

// notLists returns lists that are not canonical.
func notLists() [][]api.Int {
	long := monomial(1, api.MaxDegree+1)
	return [][]api.Int{
		of(0), of(0, 0), {{Neg: true}}, {{Mag: "\x00"}},
		of(1, 0), of(-2, 0, 1, 0), append(of(-2, 0, 1), api.Int{Neg: true}), append(of(-2, 0, 1), api.Int{Mag: "\x00"}),
		{{Mag: "\x00\x01"}}, {{Mag: "\x00\x02", Neg: true}, {}, {Mag: "\x01"}}, {{Mag: "\x02", Neg: true}, {Neg: true}, {Mag: "\x01"}}, {{Mag: "\x02", Neg: true}, {Mag: "\x00"}, {Mag: "\x01"}}, {{Mag: "\x02", Neg: true}, {}, {Mag: "\x00\x01"}},
		// They would be too large, too.
		append(slices.Clone(long), api.Int{}), append([]api.Int{{Neg: true}}, long...), append(slices.Clone(long[:len(long)-1]), api.Int{Mag: "\x00\x01"}), append(of(1), make([]api.Int, 500)...),
	}
}

// notNumbers returns rational numbers that are not canonical.
func notNumbers() []api.Rat {
	return []api.Rat{
		{}, raw(0, 0), raw(1, 0), raw(-3, 0), raw(0, 2), raw(0, -1), raw(2, 2), raw(6, 4), raw(-6, 4), raw(1, -2), raw(-1, -2), raw(4, -1),
		{Num: api.Int{Mag: "\x00\x01"}, Den: of(1)[0]}, {Num: of(1)[0], Den: api.Int{Mag: "\x00\x01"}}, {Num: api.Int{Neg: true}, Den: of(1)[0]}, {Num: api.Int{Mag: "\x00"}, Den: of(1)[0]},
	}
}

// notReal is a representation that is not valid, with what Check returns for it.
type notReal struct {
	x api.Real
	e api.Errno
}

// notReals returns representations that are not valid, many of them for several reasons, of which Check returns the first.
func notReals() []notReal {
	var list []notReal
	add := func(e api.Errno, low, high api.Rat, p []api.Int) {
		list = append(list, notReal{api.Real{Poly: p, In: api.Interval{Low: low, High: high}}, e})
	}
	one, two, nine := ratio(1, 1), ratio(2, 1), ratio(9, 1)
	tooLarge := unity(api.MaxDegree+1, 2)
	// A list that is not canonical; or a bound that is none, whatever the list and the other bound are.
	for _, p := range notLists() {
		add(api.ErrArgument, one, two, p)
		add(api.ErrArgument, two, one, p)
		add(api.ErrArgument, api.Rat{}, api.Rat{}, p)
	}
	for _, r := range notNumbers() {
		for _, p := range [][]api.Int{of(-2, 0, 1), of(0, 1), of(7), nil, of(1, -2, 1), of(1, 0, 1), tooLarge} {
			add(api.ErrArgument, r, two, p)
			add(api.ErrArgument, one, r, p)
			add(api.ErrArgument, r, r, p)
			add(api.ErrArgument, r, ratio(-99, 1), p)
		}
	}
	add(api.ErrArgument, api.Rat{}, api.Rat{}, nil)
	// Degrees that are too large come before all kinds, orders and roots.
	for _, p := range [][]api.Int{tooLarge, monomial(1, api.MaxDegree+1), monomial(-6, api.MaxDegree+1), unity(api.MaxDegree+2, 1), unity(1000, 1)} {
		add(api.ErrLimit, one, two, p)
		add(api.ErrLimit, two, one, p)
		add(api.ErrLimit, one, one, p)
		add(api.ErrLimit, nine, ratio(10, 1), p)
	}
	// Constants, common divisors, negative leading coefficients, and repeated roots come before the order, and roots.
	for _, p := range [][]api.Int{
		nil, {}, of(1), of(-1), of(5), of(256),
		of(-2, 2), of(0, 2), of(3, -3), of(-6, 0, 3), of(0, -2, 0, 2), of(1, -1), of(0, -1), of(2, 0, -1), of(4, 0, -2), of(1, 0, 0, -1),
		of(1, -2, 1), of(0, 0, 1), of(4, 0, -4, 0, 1), of(0, 1, -2, 1), of(-2, 5, -4, 1), of(1, 0, 2, 0, 1), of(0, 0, 1, 1), of(-1, 0, 0, 1, 1, 0, 0, -1), monomial(1, api.MaxDegree), monomial(-1, api.MaxDegree),
	} {
		add(api.ErrKind, one, two, p)
		add(api.ErrKind, ratio(-1, 2), ratio(3, 2), p)
		add(api.ErrKind, two, one, p)
		add(api.ErrKind, two, two, p)
	}
	// Bounds in the wrong order, or equal, where there would be a root or not.
	for _, p := range [][]api.Int{of(-2, 1), of(-2, 0, 1), of(0, -1, 0, 1), of(1, 0, 1), unity(api.MaxDegree, 2)} {
		for _, r := range []api.Rat{two, one, ratio(0, 1), ratio(-1, 2), nine} {
			add(api.ErrOrder, r, r, p)
			add(api.ErrOrder, r, ratio(-1, 1), p)
			add(api.ErrOrder, ratio(10, 1), r, p)
		}
		add(api.ErrOrder, ratio(1, 2), ratio(1, 3), p)
	}
	// No root: none at all, one at the lower end, or one outside.
	add(api.ErrRoot, ratio(-9, 1), nine, of(1, 0, 1))
	add(api.ErrRoot, two, ratio(3, 1), of(-2, 1))
	add(api.ErrRoot, one, ratio(3, 2), of(-2, 1))
	add(api.ErrRoot, ratio(-2, 1), ratio(-1, 1), of(-2, 1))
	add(api.ErrRoot, ratio(0, 1), one, of(0, 1))
	add(api.ErrRoot, ratio(1, 2), nine, of(-1, 2))
	add(api.ErrRoot, ratio(0, 1), one, of(-2, 0, 1))
	add(api.ErrRoot, ratio(0, 1), ratio(7, 5), of(-2, 0, 1))
	add(api.ErrRoot, ratio(3, 2), two, of(-2, 0, 1))
	add(api.ErrRoot, two, ratio(5, 2), of(-4, 0, 1))
	add(api.ErrRoot, one, ratio(3, 2), unity(api.MaxDegree, 1))
	// More than one: two, one of them at the upper end, and many.
	add(api.ErrRoot, ratio(-2, 1), two, of(-2, 0, 1))
	add(api.ErrRoot, ratio(-3, 1), two, of(-4, 0, 1))
	add(api.ErrRoot, ratio(-3, 2), nine, of(-2, 0, 1))
	add(api.ErrRoot, ratio(-1, 1), one, of(0, -1, 0, 1))
	add(api.ErrRoot, ratio(-1, 2), one, of(0, -1, 0, 1))
	add(api.ErrRoot, ratio(-2, 1), one, of(0, -1, 0, 1))
	add(api.ErrRoot, ratio(0, 1), two, of(4, -2, -2, 1))
	add(api.ErrRoot, ratio(-2, 1), two, of(1, -3, 0, 1))
	add(api.ErrRoot, ratio(-2, 1), two, unity(api.MaxDegree, 2))
	return list
}

// P6.1: what is wrong with representations, and the order of the errors.
func TestCheckErrors(t *testing.T) {
	for _, c := range notReals() {
		if e := algebraic.Check(c.x); e != c.e {
			t.Errorf("P6.1: %v: %d, not %d", c.x, e, c.e)
		}
	}
}

// P6.1: representations that are valid: all edges, and the greatest degree.
func TestCheckValid(t *testing.T) {
	for _, x := range append(reals(t, 3, 160, 7), realIn(new(big.Rat), big.NewRat(2, 1), unity(api.MaxDegree, 2)), realOf(-2, 0, unityList(api.MaxDegree, 1)...), realOf(-1, 1, unityList(api.MaxDegree-1, 1)...)) {
		if e := algebraic.Check(x); e != api.OK {
			t.Errorf("P6.1: %s: %d", text(x), e)
		}
	}
}

// unityList returns the coefficients of x^n - m.
func unityList(n int, m int64) []int64 {
	list := make([]int64, n+1)
	list[0], list[n] = -m, 1
	return list
}

// P6.1: any primitive polynomials and intervals, against the definition.
func TestCheckAny(t *testing.T) {
	r := rand.New(rand.NewSource(4))
	for range 3000 {
		p := random(r, 6)
		if r.Intn(3) == 0 {
			p = product(t, p, linear(place(r)))
		}
		if r.Intn(2) == 0 {
			p = simplified(t, p)
		}
		a, b := place(r), place(r)
		want := api.OK
		switch {
		case len(p) < 2 || !isSimple(p):
			want = api.ErrKind
		case a.Cmp(b) >= 0:
			want = api.ErrOrder
		case rootsIn(value(p), a, b) != 1:
			want = api.ErrRoot
		}
		if e := algebraic.Check(realIn(a, b, p)); e != want {
			t.Fatalf("P6.1: %s from %s to %s: %d, not %d", polynomial.Print(p), a, b, e, want)
		}
	}
}

// P6.1: the values of rational numbers, canonical or not.
func TestOf(t *testing.T) {
	r := rand.New(rand.NewSource(5))
	list := append(notNumbers(), ratio(0, 1), ratio(1, 1), ratio(-1, 1), ratio(3, 2), ratio(-3, 2), ratio(256, 255), raw(-256, 100), raw(0, -7))
	list = append(list, api.Rat{Num: api.Int{Mag: "\x00\x00", Neg: true}, Den: api.Int{Mag: "\x00\x05", Neg: true}}, api.Rat{Num: api.Int{Mag: "\x07" + strings.Repeat("\xfe", 300)}, Den: of(-6)[0]})
	for range 300 {
		list = append(list, number(place(r)), raw(r.Int63n(100)-50, r.Int63n(20)-10))
	}
	for _, x := range list {
		q := quantity(x)
		want := realIn(new(big.Rat).Sub(q, big.NewRat(1, 1)), q, linear(q))
		got := algebraic.Of(x)
		if !same(got, want) {
			t.Errorf("P6.1: the value of %v: %v, not %v", x, got, want)
		}
		if e := algebraic.Check(got); e != api.OK {
			t.Errorf("P6.1: the value of %v is not valid: %d", x, e)
		}
	}
}
