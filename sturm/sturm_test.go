package sturm_test

import (
	"math/big"
	"slices"
	"strings"
	"testing"

	"groove/api"
	"groove/polynomial"
	"groove/sturm"
)

// P5.1: the examples of the chapter.
func TestExamples(t *testing.T) {
	p := of(-2, 0, 1)
	list := chain(t, p)
	var texts []string
	for _, q := range list {
		texts = append(texts, polynomial.Print(q))
	}
	if s := strings.Join(texts, ", "); s != "x^2 - 2, x, 1" {
		t.Errorf("P5.1: the chain of x^2 - 2: %s", s)
	}
	for _, c := range []struct {
		at   int64
		want int
	}{{-2, 2}, {0, 1}, {2, 0}} {
		if n := sturm.Changes(list, ratio(c.at, 1)); n != c.want {
			t.Errorf("P5.1: the changes of %v at %d: %d", texts, c.at, n)
		}
	}
	if b := bound(t, p); b.Cmp(big.NewRat(4, 1)) != 0 {
		t.Errorf("P5.1: the bound of x^2 - 2: %s", b)
	}
	i := isolate(t, p)
	if len(i) != 2 || text(i[0]) != "-4 to 0" || text(i[1]) != "0 to 4" {
		t.Fatalf("P5.1: the intervals of x^2 - 2: %v", i)
	}
	if x := refine(t, p, i[1], big.NewRat(1, 2)); text(x) != "1 to 3/2" {
		t.Errorf("P5.1: the second interval of x^2 - 2, refined to 1/2: %s", text(x))
	}
}

// results calls all functions but Changes. It returns a text for each one, which is empty if all results but the error are zero, and the errors: of Chain, Bound, Isolate, Roots, Count and Refine.
func results(p []api.Int, i api.Interval, width api.Rat) ([6]string, [6]api.Errno) {
	var texts [6]string
	var errors [6]api.Errno
	note := func(at int, name string, isZero bool, e api.Errno) {
		errors[at] = e
		if !isZero {
			texts[at] = name
		}
	}
	list, e := sturm.Chain(p)
	note(0, "Chain", len(list) == 0, e)
	b, e := sturm.Bound(p)
	note(1, "Bound", b == api.Int{}, e)
	parts, e := sturm.Isolate(p)
	note(2, "Isolate", len(parts) == 0, e)
	n, e := sturm.Roots(p)
	note(3, "Roots", n == 0, e)
	n, e = sturm.Count(p, i.Low, i.High)
	note(4, "Count", n == 0, e)
	x, e := sturm.Refine(p, i, width)
	note(5, "Refine", x == api.Interval{}, e)
	return texts, errors
}

// all returns six times an error.
func all(e api.Errno) [6]api.Errno {
	return [6]api.Errno{e, e, e, e, e, e}
}

// refused checks that all functions but Changes return an error, and nothing else.
func refused(t *testing.T, p []api.Int, i api.Interval, width api.Rat, want [6]api.Errno) {
	t.Helper()
	texts, errors := results(p, i, width)
	for at, e := range errors {
		if e != want[at] || e != api.OK && texts[at] != "" {
			t.Errorf("P5.1: %v from %v to %v, width %v: function %d has the error %d, not %d; a result that is not zero: %q", p, i.Low, i.High, width, at, e, want[at], texts[at])
		}
	}
}

// notLists returns lists that are not canonical, and 0.
func notLists() [][]api.Int {
	long := monomial(1, api.MaxDegree+1)
	return [][]api.Int{
		nil, {}, of(0), of(0, 0), {{Neg: true}}, {{Mag: "\x00"}},
		of(1, 0), of(-2, 0, 1, 0), append(of(-2, 0, 1), api.Int{Neg: true}), append(of(-2, 0, 1), api.Int{Mag: "\x00"}),
		{{Mag: "\x00\x01"}}, {{Mag: "\x00\x02", Neg: true}, {}, {Mag: "\x01"}}, {{Mag: "\x02", Neg: true}, {Neg: true}, {Mag: "\x01"}}, {{Mag: "\x02", Neg: true}, {Mag: "\x00"}, {Mag: "\x01"}}, {{Mag: "\x02", Neg: true}, {}, {Mag: "\x00\x01"}},
		// They would be too large, too.
		append(long, api.Int{}), append(of(0), append([]api.Int{{Neg: true}}, long...)...), append(slices.Clone(long[:len(long)-1]), api.Int{Mag: "\x00\x01"}), append(of(1), make([]api.Int, 500)...),
	}
}

// notNumbers returns rational numbers that are not canonical.
func notNumbers() []api.Rat {
	return []api.Rat{
		{}, raw(0, 0), raw(1, 0), raw(-3, 0), raw(0, 2), raw(0, -1), raw(2, 2), raw(6, 4), raw(-6, 4), raw(1, -2), raw(-1, -2), raw(4, -1),
		{Num: api.Int{Mag: "\x00\x01"}, Den: of(1)[0]}, {Num: of(1)[0], Den: api.Int{Mag: "\x00\x01"}}, {Num: api.Int{Neg: true}, Den: of(1)[0]}, {Num: api.Int{Mag: "\x00"}, Den: of(1)[0]},
	}
}

// P5.1: lists that are not canonical, and 0, come before all other errors.
func TestNotLists(t *testing.T) {
	good, wrong := span(ratio(0, 1), ratio(4, 1)), span(ratio(4, 1), ratio(0, 1))
	for _, p := range notLists() {
		refused(t, p, good, ratio(1, 2), all(api.ErrArgument))
		refused(t, p, wrong, ratio(-1, 2), all(api.ErrArgument))
		refused(t, p, span(api.Rat{}, raw(1, 0)), raw(2, 4), all(api.ErrArgument))
	}
}

// P5.1: numbers that are not canonical come before degrees that are too large, which come before all further errors.
func TestNotNumbers(t *testing.T) {
	good, half := span(ratio(0, 1), ratio(4, 1)), ratio(1, 2)
	for _, p := range [][]api.Int{of(-2, 0, 1), of(5), monomial(1, api.MaxDegree+1)} {
		e := api.OK
		if len(p) > api.MaxDegree+1 {
			e = api.ErrLimit
		}
		for _, x := range notNumbers() {
			for _, i := range []api.Interval{span(x, ratio(9, 1)), span(ratio(-9, 1), x), span(x, x), span(x, ratio(-99, 1)), span(ratio(99, 1), x)} {
				refused(t, p, i, half, [6]api.Errno{e, e, e, e, api.ErrArgument, api.ErrArgument})
				refused(t, p, i, ratio(0, 1), [6]api.Errno{e, e, e, e, api.ErrArgument, api.ErrArgument})
			}
			// Only Refine takes a width.
			if _, f := sturm.Refine(p, good, x); f != api.ErrArgument {
				t.Errorf("P5.1: %s refined to the width %v: %d", polynomial.Print(p), x, f)
			}
			if _, f := sturm.Refine(p, span(ratio(4, 1), ratio(0, 1)), x); f != api.ErrArgument {
				t.Errorf("P5.1: %s refined from 4 to 0 to the width %v: %d", polynomial.Print(p), x, f)
			}
		}
	}
}

// P5.1: the greatest degree, and one more, which comes before the order of bounds and all further errors.
func TestDegrees(t *testing.T) {
	good, wrong := span(ratio(0, 1), ratio(4, 1)), span(ratio(4, 1), ratio(0, 1))
	unity := func(n int) []api.Int { return polynomial.Sub(monomial(1, n), of(1)) }
	refused(t, unity(api.MaxDegree), good, ratio(1, 2), all(api.OK))
	for _, p := range [][]api.Int{unity(api.MaxDegree + 1), monomial(-3, api.MaxDegree+1), monomial(1, api.MaxDegree+2), monomial(1, 3000)} {
		refused(t, p, good, ratio(1, 2), all(api.ErrLimit))
		refused(t, p, wrong, ratio(0, 1), all(api.ErrLimit))
		refused(t, p, span(ratio(7, 1), ratio(8, 1)), ratio(-1, 2), all(api.ErrLimit))
	}
	p := unity(api.MaxDegree)
	if n := roots(t, p); n != 2 {
		t.Errorf("P5.1: x^%d - 1 has %d roots", api.MaxDegree, n)
	}
	if list := chain(t, p); len(list) != 3 || !slices.Equal(list[0], p) || !slices.Equal(list[1], monomial(1, api.MaxDegree-1)) || !slices.Equal(list[2], of(1)) {
		t.Errorf("P5.1: the chain of x^%d - 1: %v", api.MaxDegree, list)
	}
	if x := refine(t, p, good, big.NewRat(1, 4)); text(x) != "3/4 to 1" {
		t.Errorf("P5.1: x^%d - 1 from 0 to 4, refined to 1/4: %s", api.MaxDegree, text(x))
	}
}

// P5.1: bounds in the wrong order, and equal ones, which Count takes.
func TestOrder(t *testing.T) {
	for _, p := range [][]api.Int{of(-2, 0, 1), of(5), of(0, -1, 0, 1)} {
		for _, c := range []struct {
			a, b api.Rat
			e    api.Errno
		}{
			{ratio(4, 1), ratio(0, 1), api.ErrOrder}, {ratio(1, 2), ratio(1, 3), api.ErrOrder}, {ratio(-1, 3), ratio(-1, 2), api.ErrOrder},
			{ratio(1, 1), ratio(-1, 1), api.ErrOrder}, {ratio(0, 1), ratio(0, 1), api.OK}, {ratio(1, 1), ratio(1, 1), api.OK}, {ratio(-7, 2), ratio(-7, 2), api.OK},
		} {
			if n, e := sturm.Count(p, c.a, c.b); e != c.e || n != 0 {
				t.Errorf("P5.1: the roots of %s from %s to %s: %d, %d", polynomial.Print(p), quantity(c.a), quantity(c.b), n, e)
			}
			for _, width := range []api.Rat{ratio(1, 2), ratio(0, 1), ratio(-1, 1)} {
				if x, e := sturm.Refine(p, span(c.a, c.b), width); e != api.ErrOrder || x != (api.Interval{}) {
					t.Errorf("P5.1: %s from %s to %s, refined: %v, %d", polynomial.Print(p), quantity(c.a), quantity(c.b), x, e)
				}
			}
		}
	}
}

// P5.1: no function changes its arguments.
func TestArgumentsKept(t *testing.T) {
	for _, p := range append(samples(1, 40, 8), notLists()...) {
		kept := slices.Clone(p)
		results(p, span(ratio(-3, 1), ratio(5, 2)), ratio(1, 8))
		list := [][]api.Int{p, p, append(slices.Clone(p), api.Int{Neg: true})}
		last := slices.Clone(list[2])
		sturm.Changes(list, ratio(-1, 3))
		if !slices.Equal(p, kept) || !slices.Equal(list[2], last) {
			t.Fatalf("P5.1: %v has become %v", kept, p)
		}
	}
}

// P5.1: the elements of a chain share no memory with each other or with the argument, and a call returns what one before has returned.
func TestOwnMemory(t *testing.T) {
	for _, p := range samples(2, 40, 8) {
		kept, list, want := slices.Clone(p), chain(t, p), chain(t, p)
		for _, q := range list {
			q = q[:cap(q)]
			for i := range q {
				q[i] = api.Int{Mag: "spoilt"}
			}
		}
		if !slices.Equal(p, kept) || !slices.EqualFunc(chain(t, p), want, slices.Equal[[]api.Int]) {
			t.Fatalf("P5.1: the chain of %v shares memory", kept)
		}
		for i, q := range want {
			copies := make([][]api.Int, len(want))
			for j, other := range want {
				copies[j] = slices.Clone(other)
			}
			q[0] = api.Int{Mag: "spoilt"}
			for j, other := range want {
				if j != i && !slices.Equal(other, copies[j]) {
					t.Fatalf("P5.1: the elements %d and %d of the chain of %v share memory", i, j, kept)
				}
			}
		}
	}
}
