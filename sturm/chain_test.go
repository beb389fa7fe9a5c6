package sturm_test

import (
	"math/big"
	"math/rand"
	"slices"
	"strings"
	"testing"

	"groove/api"
	"groove/polynomial"
	"groove/sturm"
)

// P5.1: chains against the definition.
func TestChains(t *testing.T) {
	for _, p := range samples(11, 1200, 10) {
		list, want := chain(t, p), elements(value(p))
		isElement := func(q []api.Int, w []*big.Rat) bool {
			return slices.EqualFunc(q, w, func(c api.Int, x *big.Rat) bool { return x.IsInt() && c == whole(x.Num()) })
		}
		if !slices.EqualFunc(list, want, isElement) {
			t.Fatalf("P5.1: the chain of %s: %v, not %v", polynomial.Print(p), list, want)
		}
	}
}

// P5.1: known chains.
func TestKnownChains(t *testing.T) {
	for _, c := range []struct {
		p    []api.Int
		want string
	}{
		// Constants.
		{of(1), "1"}, {of(-1), "1"}, {of(6), "1"}, {of(-256), "1"},
		// Linear polynomials, with negative leading coefficients and common divisors.
		{of(0, 1), "x, 1"}, {of(0, -7), "x, 1"}, {of(5, 2), "2*x + 5, 1"}, {of(6, -4), "2*x - 3, 1"},
		// Repeated roots.
		{of(1, -2, 1), "x - 1, 1"}, {of(-3, 6, -3), "x - 1, 1"}, {monomial(-4, 9), "x, 1"}, {of(4, 0, -4, 0, 1), "x^2 - 2, x, 1"}, {of(1, 0, 2, 0, 1), "x^2 + 1, x, -1"},
		// Signs that are those of the rests, whatever pseudo-division multiplies by: the last elements here are negative, and then divisors have negative leading coefficients.
		{of(1, 0, 1), "x^2 + 1, x, -1"}, {of(1, 1, 1), "x^2 + x + 1, 2*x + 1, -1"}, {of(1, 1, 0, 1), "x^3 + x + 1, 3*x^2 + 1, -2*x - 3, -1"}, {of(-1, 1, 0, 1), "x^3 + x - 1, 3*x^2 + 1, -2*x + 3, -1"},
		// No derivative in between is left out, and the degrees fall by more than one.
		{of(-1, 0, 0, 0, 1), "x^4 - 1, x^3, 1"}, {of(1, 0, 0, 0, 1), "x^4 + 1, x^3, -1"}, {of(-1, 1, 0, 0, 1), "x^4 + x - 1, 4*x^3 + 1, -3*x + 4, -1"}, {of(0, 0, 0, 0, 0, -2, 0, 0, 2), "x^4 - x, 4*x^3 - 1, x, 1"},
		{of(0, -1, 0, 1), "x^3 - x, 3*x^2 - 1, x, 1"},
	} {
		var texts []string
		for _, q := range chain(t, c.p) {
			texts = append(texts, polynomial.Print(q))
		}
		if s := strings.Join(texts, ", "); s != c.want {
			t.Errorf("P5.1: the chain of %s: %s, not %s", polynomial.Print(c.p), s, c.want)
		}
	}
}

// P5.1: the chain of a polynomial of degree MaxDegree with MaxDegree roots has the greatest length; its elements are reduced.
func TestLongChain(t *testing.T) {
	p := of(1)
	for i := range api.MaxDegree {
		p = product(t, p, of(int64(2*i-api.MaxDegree), 3))
	}
	list := chain(t, p)
	if len(list) != api.MaxDegree+1 {
		t.Fatalf("P5.1: a chain with %d elements", len(list))
	}
	for i, q := range list {
		divisor := new(big.Int)
		for _, c := range q {
			divisor.GCD(nil, nil, divisor, new(big.Int).Abs(size(c)))
		}
		if len(q) != api.MaxDegree+1-i || !slices.Equal(q, polynomial.Canonical(q)) || divisor.Cmp(big.NewInt(1)) != 0 {
			t.Fatalf("P5.1: the element %d of a chain: %v", i, q)
		}
	}
	if n := sturm.Changes(list, ratio(-100, 1)) - sturm.Changes(list, ratio(100, 1)); n != api.MaxDegree {
		t.Errorf("P5.1: a chain tells %d roots", n)
	}
}

// loose returns a list of the same polynomial that is not canonical.
func loose(r *rand.Rand, p []api.Int) []api.Int {
	zeros := []api.Int{{}, {Neg: true}, {Mag: "\x00"}, {Neg: true, Mag: "\x00\x00"}}
	var list []api.Int
	for _, c := range p {
		if c == (api.Int{}) {
			c = zeros[r.Intn(len(zeros))]
		} else {
			c.Mag = "\x00" + c.Mag
		}
		list = append(list, c)
	}
	return append(list, zeros[r.Intn(len(zeros))])
}

// P5.1: changes of any polynomials at any numbers, against the definition.
func TestChanges(t *testing.T) {
	r := rand.New(rand.NewSource(12))
	numbers := append(notNumbers(), ratio(0, 1), ratio(1, 1), ratio(-1, 1), ratio(1, 2), ratio(-5, 3), ratio(255, 256))
	for range 1500 {
		var list [][]api.Int
		var values [][]*big.Rat
		for range r.Intn(9) {
			var p []api.Int
			switch r.Intn(6) {
			case 0:
				p = of(0, 0)[:r.Intn(3)]
			case 1:
				p = random(r, 1)
			case 2:
				p = loose(r, random(r, 5))
			default:
				p = random(r, 6)
			}
			list, values = append(list, p), append(values, value(p))
		}
		x := numbers[r.Intn(len(numbers))]
		if r.Intn(2) == 0 {
			x = number(place(r))
		}
		if n := sturm.Changes(list, x); n != changesAt(values, quantity(x)) {
			t.Fatalf("P5.1: the changes of %v at %s: %d", list, quantity(x), n)
		}
	}
}

// P5.1: known changes: zeros are left out, wherever they stand.
func TestKnownChanges(t *testing.T) {
	for _, c := range []struct {
		signs []int64
		want  int
	}{
		{nil, 0}, {[]int64{0}, 0}, {[]int64{1}, 0}, {[]int64{-1}, 0}, {[]int64{0, 0}, 0}, {[]int64{1, 1}, 0}, {[]int64{-1, -1}, 0}, {[]int64{1, -1}, 1}, {[]int64{-1, 1}, 1},
		{[]int64{0, 1}, 0}, {[]int64{0, -1}, 0}, {[]int64{1, 0}, 0}, {[]int64{-1, 0}, 0}, {[]int64{1, 0, 1}, 0}, {[]int64{1, 0, -1}, 1}, {[]int64{-1, 0, 0, 1}, 1}, {[]int64{-1, 0, 0, -1}, 0},
		{[]int64{0, 1, 0, -1, 0}, 1}, {[]int64{1, -1, 1, -1}, 3}, {[]int64{1, 0, -1, 0, 1}, 2}, {[]int64{5, 700, -3, -1, 0, -9, 2}, 2},
	} {
		// Constants, and polynomials with these values at 2.
		var constants, others [][]api.Int
		for _, s := range c.signs {
			constants, others = append(constants, of(s)), append(others, of(s-4, 0, 1))
		}
		if m, n := sturm.Changes(constants, ratio(7, 3)), sturm.Changes(others, ratio(2, 1)); m != c.want || n != c.want {
			t.Errorf("P5.1: the changes of %v: %d and %d, not %d", c.signs, m, n, c.want)
		}
	}
}

// P5.1: changes of polynomials that are too large elsewhere, of long lists, and at long numbers.
func TestLongChanges(t *testing.T) {
	for _, n := range []int{api.MaxDegree, api.MaxDegree + 1, 200, 1001} {
		odd := monomial(-1, 2*n+1)
		list := [][]api.Int{monomial(1, 2*n), odd, append(slices.Clone(odd), api.Int{}), polynomial.Sub(monomial(1, n), of(1)), of(1)}
		for _, c := range []struct {
			at   api.Rat
			want int
		}{
			// The signs are + - - + +, + + + (n even: +, else -) +, + - - 0 +, 0 0 0 - +, and + - - - +.
			{ratio(3, 2), 2}, {ratio(-3, 2), 2 * (n % 2)}, {ratio(1, 1), 2}, {ratio(0, 1), 1}, {ratio(2, 3), 2}, {api.Rat{}, 1}, {raw(6, 4), 2}, {raw(3, -2), 2 * (n % 2)},
		} {
			if m := sturm.Changes(list, c.at); m != c.want {
				t.Errorf("P5.1: the changes of a list of degree %d at %s: %d, not %d", 2*n+1, quantity(c.at), m, c.want)
			}
		}
	}
	var list [][]api.Int
	for i := range int64(5000) {
		list = append(list, of(1-2*(i%2), 0, 0, i))
	}
	if n := sturm.Changes(list, ratio(0, 1)); n != 4999 {
		t.Errorf("P5.1: the changes of a long list: %d", n)
	}
	long := api.Int{Mag: "\x07" + strings.Repeat("\xfe", 300)}
	if n := sturm.Changes([][]api.Int{of(1, -1), {long, of(-1)[0]}, of(1)}, api.Rat{Num: long, Den: of(1)[0]}); n != 1 {
		t.Errorf("P5.1: the changes at a long number: %d", n)
	}
}
