package sturm_test

import (
	"math/big"
	"math/rand"
	"slices"
	"testing"

	"groove/api"
	"groove/polynomial"
	"groove/sturm"
)

// size returns the value of an integer, by its definition.
func size(a api.Int) *big.Int {
	n := new(big.Int).SetBytes([]byte(a.Mag))
	if a.Neg {
		n.Neg(n)
	}
	return n
}

// whole returns the canonical integer with the value n, by its definition.
func whole(n *big.Int) api.Int {
	return api.Int{Neg: n.Sign() < 0, Mag: string(n.Bytes())}
}

// number returns the canonical rational number with the value n, by its definition.
func number(n *big.Rat) api.Rat {
	return api.Rat{Num: whole(n.Num()), Den: whole(n.Denom())}
}

// quantity returns the value of a rational number, by its definition.
func quantity(r api.Rat) *big.Rat {
	if size(r.Den).Sign() == 0 {
		return new(big.Rat)
	}
	return new(big.Rat).SetFrac(size(r.Num), size(r.Den))
}

// isCanonical says whether r is canonical, by the definition.
func isCanonical(r api.Rat) bool {
	return r == number(quantity(r))
}

// raw returns the number n / d with just these integers.
func raw(n, d int64) api.Rat {
	return api.Rat{Num: whole(big.NewInt(n)), Den: whole(big.NewInt(d))}
}

// ratio returns the canonical number n / d.
func ratio(n, d int64) api.Rat {
	return number(big.NewRat(n, d))
}

// span returns the interval from a to b.
func span(a, b api.Rat) api.Interval {
	return api.Interval{Low: a, High: b}
}

// of returns the list of these coefficients.
func of(list ...int64) []api.Int {
	var p []api.Int
	for _, n := range list {
		p = append(p, whole(big.NewInt(n)))
	}
	return p
}

// monomial returns n * x^exponent.
func monomial(n int64, exponent int) []api.Int {
	p := make([]api.Int, exponent+1)
	p[exponent] = whole(big.NewInt(n))
	return p
}

// value returns the coefficients of p up to that of its degree, by the definition.
func value(p []api.Int) []*big.Rat {
	var list []*big.Rat
	for _, c := range p {
		list = append(list, new(big.Rat).SetInt(size(c)))
	}
	return trim(list)
}

// trim returns a list without the zeros at its end.
func trim(list []*big.Rat) []*big.Rat {
	for len(list) > 0 && list[len(list)-1].Sign() == 0 {
		list = list[:len(list)-1]
	}
	return list
}

// valueAt returns the value of p at x, by the definition.
func valueAt(p []*big.Rat, x *big.Rat) *big.Rat {
	result := new(big.Rat)
	for _, c := range slices.Backward(p) {
		result.Add(result.Mul(result, x), c)
	}
	return result
}

// divide returns quotient and rest of the division of a by b, which is not 0, with rational coefficients.
func divide(a, b []*big.Rat) ([]*big.Rat, []*big.Rat) {
	rest := slices.Clone(a)
	quotient := make([]*big.Rat, max(0, len(a)-len(b)+1))
	for i := len(quotient) - 1; i >= 0; i-- {
		quotient[i] = new(big.Rat).Quo(rest[i+len(b)-1], b[len(b)-1])
		for j, c := range b {
			rest[i+j] = new(big.Rat).Sub(rest[i+j], new(big.Rat).Mul(quotient[i], c))
		}
	}
	return quotient, trim(rest)
}

// derivative returns the derivative of a polynomial that is not 0.
func derivative(p []*big.Rat) []*big.Rat {
	var list []*big.Rat
	for i, c := range p[1:] {
		list = append(list, new(big.Rat).Mul(c, big.NewRat(int64(i+1), 1)))
	}
	return list
}

// reduce returns the reduced polynomial of which a polynomial with rational coefficients is a multiple by a positive number, by the definition.
func reduce(p []*big.Rat) []*big.Rat {
	multiple, divisor := big.NewInt(1), new(big.Int)
	for _, c := range p {
		multiple.Mul(multiple, new(big.Int).Quo(c.Denom(), new(big.Int).GCD(nil, nil, multiple, c.Denom())))
	}
	scaled := make([]*big.Rat, len(p))
	for i, c := range p {
		scaled[i] = new(big.Rat).Mul(c, new(big.Rat).SetInt(multiple))
		divisor.GCD(nil, nil, divisor, new(big.Int).Abs(scaled[i].Num()))
	}
	for i, c := range scaled {
		scaled[i] = new(big.Rat).SetFrac(c.Num(), divisor)
	}
	return scaled
}

// opposite returns -p.
func opposite(p []*big.Rat) []*big.Rat {
	list := make([]*big.Rat, len(p))
	for i, c := range p {
		list[i] = new(big.Rat).Neg(c)
	}
	return list
}

// simple returns the primitive polynomial with the roots of p, which is not 0, each of them simple, by Euclid's algorithm.
func simple(p []*big.Rat) []*big.Rat {
	a, b := p, derivative(p)
	for len(b) > 0 {
		_, rest := divide(a, b)
		a, b = b, rest
		if len(b) > 0 {
			b = reduce(b)
		}
	}
	quotient, _ := divide(p, a)
	quotient = reduce(quotient)
	if quotient[len(quotient)-1].Sign() < 0 {
		return opposite(quotient)
	}
	return quotient
}

// elements returns the Sturm chain of p, which is not 0, by the definition.
func elements(p []*big.Rat) [][]*big.Rat {
	list := [][]*big.Rat{simple(p)}
	next := derivative(list[0])
	for len(next) > 0 {
		list = append(list, reduce(next))
		_, rest := divide(list[len(list)-2], list[len(list)-1])
		next = opposite(rest)
	}
	return list
}

// changesAt returns the number of changes of a list at x, by the definition.
func changesAt(list [][]*big.Rat, x *big.Rat) int {
	var signs []int
	for _, p := range list {
		if s := valueAt(p, x).Sign(); s != 0 {
			signs = append(signs, s)
		}
	}
	number := 0
	for i := 1; i < len(signs); i++ {
		if signs[i] != signs[i-1] {
			number++
		}
	}
	return number
}

// variations returns the number of changes of sign in a list of numbers without its zeros.
func variations(list []*big.Rat) int {
	number, last := 0, 0
	for _, c := range list {
		if c.Sign()*last < 0 {
			number++
		}
		if c.Sign() != 0 {
			last = c.Sign()
		}
	}
	return number
}

// shift returns p(x + by).
func shift(p []*big.Rat, by *big.Rat) []*big.Rat {
	list := slices.Clone(p)
	for i := range list {
		for j := len(list) - 2; j >= i; j-- {
			list[j] = new(big.Rat).Add(list[j], new(big.Rat).Mul(list[j+1], by))
		}
	}
	return list
}

// between returns the number of roots of p, which has no multiple ones, that are greater than a, and less than b: not by Sturm's theorem, but by Descartes' rule of signs.
func between(p []*big.Rat, a, b *big.Rat) int {
	// The numbers between a and b become those between 0 and 1, and then those greater than 0.
	list, scale := shift(p, a), big.NewRat(1, 1)
	for i, c := range list {
		list[i] = new(big.Rat).Mul(c, scale)
		scale = new(big.Rat).Mul(scale, new(big.Rat).Sub(b, a))
	}
	slices.Reverse(list)
	if n := variations(shift(list, big.NewRat(1, 1))); n < 2 {
		return n
	}
	middle := half(a, b)
	number := between(p, a, middle) + between(p, middle, b)
	if valueAt(p, middle).Sign() == 0 {
		number++
	}
	return number
}

// half returns the mean of two numbers.
func half(a, b *big.Rat) *big.Rat {
	sum := new(big.Rat).Add(a, b)
	return sum.Mul(sum, big.NewRat(1, 2))
}

// rootsIn returns the number of roots of p, which has no multiple ones, that are greater than a, and at most b, where a is at most b.
func rootsIn(p []*big.Rat, a, b *big.Rat) int {
	if a.Cmp(b) == 0 {
		return 0
	}
	number := between(p, a, b)
	if valueAt(p, b).Sign() == 0 {
		number++
	}
	return number
}

// boundOf returns the bound of p, which is not 0, by the definition.
func boundOf(p []*big.Rat) *big.Rat {
	greatest := new(big.Rat)
	for _, c := range p[:len(p)-1] {
		if size := new(big.Rat).Abs(c); size.Cmp(greatest) > 0 {
			greatest = size
		}
	}
	limit := new(big.Rat).Quo(greatest, new(big.Rat).Abs(p[len(p)-1]))
	limit.Add(limit, big.NewRat(1, 1))
	power := big.NewRat(1, 1)
	for power.Cmp(limit) <= 0 {
		power.Add(power, power)
	}
	return power
}

// random returns the canonical list of a polynomial that is not 0 and has up to n coefficients, some of them 0, which are small or have several bytes.
func random(r *rand.Rand, n int) []api.Int {
	bound := new(big.Int).Lsh(big.NewInt(1), []uint{2, 3, 7, 40}[r.Intn(4)])
	p := make([]api.Int, 1+r.Intn(n))
	for i := range p {
		c := new(big.Int).Rand(r, bound)
		if r.Intn(4) == 0 {
			c.SetInt64(0)
		}
		if i == len(p)-1 {
			c.Add(c, big.NewInt(1))
		}
		if r.Intn(2) == 0 {
			c.Neg(c)
		}
		p[i] = whole(c)
	}
	return p
}

// place returns a random number, often an integer or a half.
func place(r *rand.Rand) *big.Rat {
	return big.NewRat(int64(r.Intn(41)-20), []int64{1, 1, 2, 2, 3, 4, 7, 60}[r.Intn(8)])
}

// edges returns polynomials at which something changes.
func edges() [][]api.Int {
	return [][]api.Int{
		// Constants.
		of(1), of(-1), of(5), of(-6), of(256),
		// Linear ones.
		of(0, 1), of(0, -1), of(0, 3), of(1, 1), of(-1, 1), of(1, -1), of(5, 2), of(-7, -2), of(-4, 6),
		// No roots, one, and two.
		of(1, 0, 1), of(-1, 0, -1), of(3, 1, 1), of(-2, 0, 1), of(4, 0, -2), of(-6, 0, 2), of(3, -16, 16), of(0, 0, 1), of(0, -1, 1), of(0, 1, 1),
		// Repeated roots.
		of(1, -2, 1), of(-1, 2, -1), of(0, 0, -4, 4), of(0, 0, 0, 7), of(4, 0, -4, 0, 1), of(1, 0, 2, 0, 1), of(-8, 36, -54, 27), of(0, 0, 1, -2, 1), of(0, 0, -12, 0, 0, 12),
		// Elements of the chain that are 0 at roots of others, and degrees that fall by more than one.
		of(0, -1, 0, 1), of(0, 1, 0, -1), of(0, 4, 0, -5, 0, 1), of(-36, 0, 49, 0, -14, 0, 1), of(-1, 0, 0, 0, 1), of(1, 0, 0, 0, 1), of(-1, 0, 0, 0, 0, 1), of(2, 0, 0, 3, 0, 0, -1), of(-1, 1, 0, 0, 0, 0, 0, 1), of(1, 0, -1, 0, 0, 0, 0, 0, 5),
		// Common divisors of the coefficients.
		of(-6, 12, 18), of(6, 0, -12), of(0, 30, -60, 30), of(1000000, 0, -1000000),
	}
}

// samples returns the edges and a number of random polynomials, some of them with repeated roots, which have up to n coefficients beside those of the repeated factors.
func samples(seed int64, count, n int) [][]api.Int {
	r := rand.New(rand.NewSource(seed))
	list := edges()
	for i := range count {
		p := random(r, n)
		if i%4 == 0 {
			factor := random(r, 3)
			p, _ = polynomial.Mul(p, factor)
			p, _ = polynomial.Mul(p, factor)
		}
		list = append(list, p)
	}
	return list
}

// product returns the product of polynomials, which has no error.
func product(t *testing.T, list ...[]api.Int) []api.Int {
	t.Helper()
	result := of(1)
	for _, p := range list {
		next, e := polynomial.Mul(result, p)
		if e != api.OK {
			t.Fatalf("a product of degree %d and %d: %d", len(result)-1, len(p)-1, e)
		}
		result = next
	}
	return result
}

// power returns the power n of p, which has no error.
func power(t *testing.T, p []api.Int, n int) []api.Int {
	t.Helper()
	result := of(1)
	for range n {
		result = product(t, result, p)
	}
	return result
}

// linear returns the primitive polynomial with the root r.
func linear(r *big.Rat) []api.Int {
	return []api.Int{whole(new(big.Int).Neg(r.Num())), whole(r.Denom())}
}

// chain returns the Sturm chain of p, which has no error.
func chain(t *testing.T, p []api.Int) [][]api.Int {
	t.Helper()
	list, e := sturm.Chain(p)
	if e != api.OK {
		t.Fatalf("P5.1: the chain of %s: %d", polynomial.Print(p), e)
	}
	return list
}

// count returns the number of roots of p that are greater than a, and at most b, which has no error.
func count(t *testing.T, p []api.Int, a, b *big.Rat) int {
	t.Helper()
	n, e := sturm.Count(p, number(a), number(b))
	if e != api.OK {
		t.Fatalf("P5.2: the roots of %s from %s to %s: %d", polynomial.Print(p), a, b, e)
	}
	return n
}

// roots returns the number of roots of p, which has no error.
func roots(t *testing.T, p []api.Int) int {
	t.Helper()
	n, e := sturm.Roots(p)
	if e != api.OK {
		t.Fatalf("P5.2: the roots of %s: %d", polynomial.Print(p), e)
	}
	return n
}

// bound returns the bound of p, which has no error.
func bound(t *testing.T, p []api.Int) *big.Rat {
	t.Helper()
	b, e := sturm.Bound(p)
	if e != api.OK || b != whole(size(b)) {
		t.Fatalf("P5.5: the bound of %s: %v, %d", polynomial.Print(p), b, e)
	}
	return new(big.Rat).SetInt(size(b))
}

// isolate returns the intervals of p, which have canonical numbers and no error.
func isolate(t *testing.T, p []api.Int) []api.Interval {
	t.Helper()
	list, e := sturm.Isolate(p)
	if e != api.OK {
		t.Fatalf("P5.4: the intervals of %s: %d", polynomial.Print(p), e)
	}
	for _, i := range list {
		if !isCanonical(i.Low) || !isCanonical(i.High) {
			t.Fatalf("P5.4: the intervals of %s: %v", polynomial.Print(p), list)
		}
	}
	return list
}

// refine returns what is left of an interval of p, which has canonical numbers and no error.
func refine(t *testing.T, p []api.Int, i api.Interval, width *big.Rat) api.Interval {
	t.Helper()
	x, e := sturm.Refine(p, i, number(width))
	if e != api.OK || !isCanonical(x.Low) || !isCanonical(x.High) {
		t.Fatalf("P5.7: %s from %s to %s, refined to %s: %v, %d", polynomial.Print(p), quantity(i.Low), quantity(i.High), width, x, e)
	}
	return x
}

// text returns an interval as a text.
func text(i api.Interval) string {
	return quantity(i.Low).RatString() + " to " + quantity(i.High).RatString()
}
