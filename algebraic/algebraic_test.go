package algebraic_test

import (
	"math/big"
	"slices"
	"testing"

	"groove/algebraic"
	"groove/api"
	"groove/polynomial"
)

// P6.1: the examples of the chapter.
func TestExamples(t *testing.T) {
	golden := greatest(t, of(-1, -1, 1))
	if compareRat(t, golden, big.NewRat(1, 1)) != 1 || compareRat(t, golden, big.NewRat(2, 1)) != -1 || compareRat(t, golden, big.NewRat(8, 5)) != 1 {
		t.Error("P6.1: the greatest root of x^2 - x - 1, compared with 1, 2 or 8/5")
	}
	if n := power(t, golden, 2, big.NewInt(3)); n != -1 {
		t.Errorf("P6.1: its square, compared with 3: %d", n)
	}
	if d := digits(t, golden, 3); d.Cmp(big.NewRat(809, 500)) != 0 {
		t.Errorf("P6.1: its digits with three places: %s", d)
	}
	two := greatest(t, of(-2, 0, 1))
	if n := compare(t, two, greatest(t, of(-2, 0, 0, 1))); n != 1 {
		t.Errorf("P6.1: the greatest roots of x^2 - 2 and x^3 - 2: %d", n)
	}
	if n := power(t, two, 2, big.NewInt(2)); n != 0 {
		t.Errorf("P6.1: the square of that of x^2 - 2, compared with 2: %d", n)
	}
}

// results calls all functions that take a number. It returns a text for each one, which is empty if all results but the error are zero, and the errors: of Compare with the number on both sides, CompareRat, Sign, ComparePower, Floor and Digits.
func results(a, b api.Real, r api.Rat, p []api.Int, n int, m api.Int, places int) ([7]string, [7]api.Errno) {
	var texts [7]string
	var errors [7]api.Errno
	note := func(at int, name string, isZero bool, e api.Errno) {
		errors[at] = e
		if !isZero {
			texts[at] = name
		}
	}
	s, e := algebraic.Compare(a, b)
	note(0, "Compare", s == 0, e)
	s, e = algebraic.Compare(b, a)
	note(1, "Compare", s == 0, e)
	s, e = algebraic.CompareRat(a, r)
	note(2, "CompareRat", s == 0, e)
	s, e = algebraic.Sign(p, a)
	note(3, "Sign", s == 0, e)
	s, e = algebraic.ComparePower(a, n, m)
	note(4, "ComparePower", s == 0, e)
	i, e := algebraic.Floor(a)
	note(5, "Floor", i == api.Int{}, e)
	d, e := algebraic.Digits(a, places)
	note(6, "Digits", d == api.Rat{}, e)
	return texts, errors
}

// all returns seven times an error.
func all(e api.Errno) [7]api.Errno {
	return [7]api.Errno{e, e, e, e, e, e, e}
}

// refused checks that functions return errors, and nothing else beside them.
func refused(t *testing.T, texts [7]string, errors, want [7]api.Errno) {
	t.Helper()
	for at, e := range errors {
		if e != want[at] || e != api.OK && texts[at] != "" {
			t.Errorf("P6.1: function %d has the error %d, not %d; a result that is not zero: %q", at, e, want[at], texts[at])
		}
	}
}

// P6.1: numbers that are not valid, for whatever reason, are ErrArgument everywhere, before all other errors.
func TestNotValid(t *testing.T) {
	good := realOf(1, 2, -2, 0, 1)
	for _, c := range notReals() {
		for _, b := range []api.Real{good, {}, c.x} {
			texts, errors := results(c.x, b, ratio(1, 2), of(-1, 1), 2, of(3)[0], 5)
			refused(t, texts, errors, all(api.ErrArgument))
			texts, errors = results(c.x, b, raw(2, 4), of(1, 0), 0, api.Int{Neg: true}, -1)
			refused(t, texts, errors, all(api.ErrArgument))
			texts, errors = results(c.x, b, ratio(1, 2), monomial(1, api.MaxDegree+1), api.MaxBlock+1, of(-3)[0], 31)
			refused(t, texts, errors, all(api.ErrArgument))
		}
	}
}

// P6.1: rational numbers, lists and integers that are not canonical, with a number that is valid.
func TestNotCanonical(t *testing.T) {
	good := realOf(1, 2, -2, 0, 1)
	half, one, three := ratio(1, 2), of(1), of(3)[0]
	for _, r := range notNumbers() {
		texts, errors := results(good, good, r, one, 1, three, 1)
		want := all(api.OK)
		want[2] = api.ErrArgument
		refused(t, texts, errors, want)
	}
	for _, p := range notLists() {
		texts, errors := results(good, good, half, p, 1, three, 1)
		want := all(api.OK)
		want[3] = api.ErrArgument
		refused(t, texts, errors, want)
	}
	for _, m := range []api.Int{{Neg: true}, {Mag: "\x00"}, {Mag: "\x00", Neg: true}, {Mag: "\x00\x03"}, {Mag: "\x00\x03", Neg: true}} {
		// It comes before an exponent that is out of range, and a negative number.
		for _, n := range []int{-1, 0, 1, api.MaxBlock, api.MaxBlock + 1} {
			texts, errors := results(good, good, half, one, n, m, 1)
			want := all(api.OK)
			want[4] = api.ErrArgument
			refused(t, texts, errors, want)
			if s, e := algebraic.ComparePower(algebraic.Of(ratio(-1, 1)), n, m); s != 0 || e != api.ErrArgument {
				t.Errorf("P6.1: the power %d of -1, compared with %v: %d, %d", n, m, s, e)
			}
		}
	}
}

// P6.1: exponents, numbers and places that are out of range, and degrees that are too large.
func TestRanges(t *testing.T) {
	two, zero, small := realOf(1, 2, -2, 0, 1), realOf(-1, 1, 0, 1), realOf(-1, 0, -1, -1, 1)
	huge := int(^uint(0) >> 1)
	for _, c := range []struct {
		a    api.Real
		n    int
		m    int64
		want api.Errno
	}{
		{two, 1, 0, api.OK}, {two, api.MaxBlock, 0, api.OK}, {zero, 1, 0, api.OK}, {zero, api.MaxBlock, 5, api.OK}, {zero, 2, 0, api.OK},
		{two, 0, 2, api.ErrRange}, {two, -1, 2, api.ErrRange}, {two, -huge - 1, 2, api.ErrRange}, {two, api.MaxBlock + 1, 2, api.ErrRange}, {two, huge, 2, api.ErrRange}, {two, api.MaxDegree + 1, 2, api.ErrRange},
		{two, 1, -1, api.ErrRange}, {two, 3, -256, api.ErrRange}, {zero, 0, 0, api.ErrRange}, {zero, 1, -1, api.ErrRange},
		{small, 1, 0, api.ErrRange}, {small, 2, 1, api.ErrRange}, {small, 0, -1, api.ErrRange}, {algebraic.Of(ratio(-1, 1000000)), 1, 0, api.ErrRange}, {realOf(-2, -1, -2, 0, 1), 2, 2, api.ErrRange}, {realOf(-3, 0, -4, 0, 1), 2, 4, api.ErrRange}, {realOf(-2, 1, 1, 1), 2, 1, api.ErrRange},
		// The interval is partly negative, the value is not.
		{realOf(-1, 2, -2, 0, 1), 2, 2, api.OK}, {realIn(big.NewRat(-1, 7), big.NewRat(1, 7), of(0, 1)), 1, 0, api.OK}, {realIn(big.NewRat(-1, 7), big.NewRat(0, 1), of(0, 1)), 1, 0, api.OK},
	} {
		if s, e := algebraic.ComparePower(c.a, c.n, of(c.m)[0]); e != c.want || e != api.OK && s != 0 {
			t.Errorf("P6.1: the power %d of %s, compared with %d: %d, %d", c.n, text(c.a), c.m, s, e)
		}
	}
	for _, places := range []int{-1, -30, -huge - 1, 31, 32, 1000000, huge} {
		for _, a := range []api.Real{two, zero, small} {
			if d, e := algebraic.Digits(a, places); d != (api.Rat{}) || e != api.ErrRange {
				t.Errorf("P6.1: %d digits of %s: %v, %d", places, text(a), d, e)
			}
		}
	}
	for _, p := range [][]api.Int{monomial(1, api.MaxDegree+1), monomial(-3, api.MaxDegree+2), unity(200, 1), monomial(1, 3000)} {
		for _, a := range []api.Real{two, zero, small} {
			if s, e := algebraic.Sign(p, a); s != 0 || e != api.ErrLimit {
				t.Errorf("P6.1: the sign of a polynomial of degree %d at %s: %d, %d", len(p)-1, text(a), s, e)
			}
		}
	}
}

// P6.1: the greatest degree, of numbers and of polynomials.
func TestGreatestDegree(t *testing.T) {
	root := greatest(t, unity(api.MaxDegree, 2))
	for _, c := range []struct {
		r    *big.Rat
		want int
	}{{big.NewRat(1, 1), 1}, {big.NewRat(101, 100), 1}, {big.NewRat(102, 100), -1}, {big.NewRat(1000, 1), -1}} {
		if n := compareRat(t, root, c.r); n != c.want {
			t.Errorf("P6.1: the %d-th root of 2, compared with %s: %d", api.MaxDegree, c.r, n)
		}
	}
	if d := digits(t, root, 6); d.Cmp(big.NewRat(1010889, 1000000)) != 0 {
		t.Errorf("P6.1: the digits of the %d-th root of 2: %s", api.MaxDegree, d)
	}
	if n := floor(t, root); n.Cmp(big.NewInt(1)) != 0 {
		t.Errorf("P6.1: the floor of the %d-th root of 2: %s", api.MaxDegree, n)
	}
	for _, c := range []struct {
		p    []api.Int
		want int
	}{{unity(api.MaxDegree, 2), 0}, {unity(api.MaxDegree, 1), 1}, {unity(api.MaxDegree, 3), -1}, {unity(api.MaxDegree-1, 2), -1}, {unity(32, 1), 1}, {unity(32, 2), -1}} {
		if n := sign(t, c.p, root); n != c.want {
			t.Errorf("P6.1: the sign of %s at the %d-th root of 2: %d", polynomial.Print(c.p), api.MaxDegree, n)
		}
	}
	if m, n := compare(t, root, greatest(t, unity(api.MaxDegree-1, 2))), compare(t, greatest(t, unity(api.MaxDegree, 3)), root); m != -1 || n != 1 {
		t.Errorf("P6.1: the %d-th root of 2, compared with others: %d, %d", api.MaxDegree, m, n)
	}
	if n := power(t, root, api.MaxBlock, big.NewInt(2)); n != -1 {
		t.Errorf("P6.1: the power %d of the %d-th root of 2: %d", api.MaxBlock, api.MaxDegree, n)
	}
}

// P6.1: no function changes its arguments.
func TestArgumentsKept(t *testing.T) {
	list := reals(t, 1, 60, 6)
	for _, c := range notReals() {
		list = append(list, c.x)
	}
	for _, a := range list {
		p, other := slices.Clone(a.Poly), realOf(-1, 1, -1, 1, 0, 1)
		kept, q := slices.Clone(a.Poly), slices.Clone(other.Poly)
		algebraic.Check(a)
		algebraic.Greatest(p)
		algebraic.Greatest(a.Poly)
		results(a, other, ratio(1, 3), p, 3, of(5)[0], 4)
		if !slices.Equal(a.Poly, kept) || !slices.Equal(p, kept) || !slices.Equal(other.Poly, q) {
			t.Fatalf("P6.1: %v has become %v", kept, a.Poly)
		}
	}
}

// P6.1: the polynomials of results share no memory with arguments, and a call returns what one before has returned.
func TestOwnMemory(t *testing.T) {
	for _, a := range reals(t, 2, 60, 6) {
		kept, want, x := slices.Clone(a.Poly), greatest(t, a.Poly), greatest(t, a.Poly)
		spoil(x.Poly)
		if !slices.Equal(a.Poly, kept) || !same(greatest(t, a.Poly), want) {
			t.Fatalf("P6.1: the greatest root of %v shares memory", kept)
		}
	}
	for _, r := range []api.Rat{ratio(3, 2), ratio(0, 1), raw(4, -6), {}} {
		want, x := algebraic.Of(r), algebraic.Of(r)
		spoil(x.Poly)
		if !same(algebraic.Of(r), want) {
			t.Fatalf("P6.1: the value of %s shares memory", quantity(r))
		}
	}
}

// spoil overwrites all memory of a list.
func spoil(p []api.Int) {
	p = p[:cap(p)]
	for i := range p {
		p[i] = api.Int{Mag: "spoilt"}
	}
}
