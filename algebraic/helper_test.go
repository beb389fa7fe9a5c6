package algebraic_test

import (
	"math/big"
	"math/rand"
	"slices"
	"testing"

	"groove/algebraic"
	"groove/api"
	"groove/polynomial"
)

// size returns the value of an integer, by its definition.
func size(a api.Int) *big.Int {
	n := new(big.Int).SetBytes([]byte(a.Mag))
	if a.Neg {
		n.Neg(n)
	}
	return n
}

// whole returns the canonical integer with the value n, by its definition.
func whole(n *big.Int) api.Int {
	return api.Int{Neg: n.Sign() < 0, Mag: string(n.Bytes())}
}

// number returns the canonical rational number with the value n, by its definition.
func number(n *big.Rat) api.Rat {
	return api.Rat{Num: whole(n.Num()), Den: whole(n.Denom())}
}

// quantity returns the value of a rational number, by its definition.
func quantity(r api.Rat) *big.Rat {
	if size(r.Den).Sign() == 0 {
		return new(big.Rat)
	}
	return new(big.Rat).SetFrac(size(r.Num), size(r.Den))
}

// raw returns the number n / d with just these integers.
func raw(n, d int64) api.Rat {
	return api.Rat{Num: whole(big.NewInt(n)), Den: whole(big.NewInt(d))}
}

// ratio returns the canonical number n / d.
func ratio(n, d int64) api.Rat {
	return number(big.NewRat(n, d))
}

// of returns the list of these coefficients.
func of(list ...int64) []api.Int {
	var p []api.Int
	for _, n := range list {
		p = append(p, whole(big.NewInt(n)))
	}
	return p
}

// monomial returns n * x^exponent.
func monomial(n int64, exponent int) []api.Int {
	p := make([]api.Int, exponent+1)
	p[exponent] = whole(big.NewInt(n))
	return p
}

// unity returns x^n - m.
func unity(n int, m int64) []api.Int {
	return polynomial.Sub(monomial(1, n), of(m))
}

// realIn returns the representation with a polynomial and an interval.
func realIn(low, high *big.Rat, p []api.Int) api.Real {
	return api.Real{Poly: p, In: api.Interval{Low: number(low), High: number(high)}}
}

// realOf returns the representation with these coefficients and the interval from low to high.
func realOf(low, high int64, list ...int64) api.Real {
	return realIn(big.NewRat(low, 1), big.NewRat(high, 1), of(list...))
}

// same says whether two representations are equal.
func same(a, b api.Real) bool {
	return slices.Equal(a.Poly, b.Poly) && a.In == b.In
}

// text returns a representation as a text.
func text(x api.Real) string {
	return "the root of " + polynomial.Print(x.Poly) + " from " + quantity(x.In.Low).RatString() + " to " + quantity(x.In.High).RatString()
}

// value returns the coefficients of p up to that of its degree, by the definition.
func value(p []api.Int) []*big.Rat {
	var list []*big.Rat
	for _, c := range p {
		list = append(list, new(big.Rat).SetInt(size(c)))
	}
	return trim(list)
}

// trim returns a list without the zeros at its end.
func trim(list []*big.Rat) []*big.Rat {
	for len(list) > 0 && list[len(list)-1].Sign() == 0 {
		list = list[:len(list)-1]
	}
	return list
}

// valueAt returns the value of p at x, by the definition.
func valueAt(p []*big.Rat, x *big.Rat) *big.Rat {
	result := new(big.Rat)
	for _, c := range slices.Backward(p) {
		result.Add(result.Mul(result, x), c)
	}
	return result
}

// rest returns the rest of the division of a by b, which is not 0, with rational coefficients.
func rest(a, b []*big.Rat) []*big.Rat {
	list := slices.Clone(a)
	for i := len(a) - len(b); i >= 0; i-- {
		factor := new(big.Rat).Quo(list[i+len(b)-1], b[len(b)-1])
		for j, c := range b {
			list[i+j] = new(big.Rat).Sub(list[i+j], new(big.Rat).Mul(factor, c))
		}
	}
	return trim(list)
}

// monic returns a polynomial that is not 0, divided by its leading coefficient.
func monic(p []*big.Rat) []*big.Rat {
	list := make([]*big.Rat, len(p))
	for i, c := range p {
		list[i] = new(big.Rat).Quo(c, p[len(p)-1])
	}
	return list
}

// common returns a greatest common divisor of two polynomials, by Euclid's algorithm; b is not 0.
func common(a, b []*big.Rat) []*big.Rat {
	for len(b) > 0 {
		a, b = b, rest(a, b)
		if len(b) > 0 {
			b = monic(b)
		}
	}
	return a
}

// derivative returns the derivative of a polynomial.
func derivative(p []*big.Rat) []*big.Rat {
	var list []*big.Rat
	for i, c := range p {
		if i > 0 {
			list = append(list, new(big.Rat).Mul(c, big.NewRat(int64(i), 1)))
		}
	}
	return list
}

// isPrimitive says whether p, which is not 0, has a positive leading coefficient and no common divisor of the coefficients but 1.
func isPrimitive(p []api.Int) bool {
	divisor := new(big.Int)
	for _, c := range p {
		divisor.GCD(nil, nil, divisor, new(big.Int).Abs(size(c)))
	}
	return size(p[len(p)-1]).Sign() > 0 && divisor.Cmp(big.NewInt(1)) == 0
}

// isSimple says whether p is its own square-free polynomial, by the definitions; p is no constant.
func isSimple(p []api.Int) bool {
	return isPrimitive(p) && len(common(value(p), derivative(value(p)))) == 1
}

// variations returns the number of changes of sign in a list of numbers without its zeros.
func variations(list []*big.Rat) int {
	number, last := 0, 0
	for _, c := range list {
		if c.Sign()*last < 0 {
			number++
		}
		if c.Sign() != 0 {
			last = c.Sign()
		}
	}
	return number
}

// shift returns p(x + by).
func shift(p []*big.Rat, by *big.Rat) []*big.Rat {
	list := slices.Clone(p)
	for i := range list {
		for j := len(list) - 2; j >= i; j-- {
			list[j] = new(big.Rat).Add(list[j], new(big.Rat).Mul(list[j+1], by))
		}
	}
	return list
}

// half returns the mean of two numbers.
func half(a, b *big.Rat) *big.Rat {
	sum := new(big.Rat).Add(a, b)
	return sum.Mul(sum, big.NewRat(1, 2))
}

// between returns the number of roots of p, which has no multiple ones, that are greater than a, and less than b: not by Sturm's theorem, but by Descartes' rule of signs.
func between(p []*big.Rat, a, b *big.Rat) int {
	// The numbers between a and b become those between 0 and 1, and then those greater than 0.
	list, scale := shift(p, a), big.NewRat(1, 1)
	for i, c := range list {
		list[i] = new(big.Rat).Mul(c, scale)
		scale = new(big.Rat).Mul(scale, new(big.Rat).Sub(b, a))
	}
	slices.Reverse(list)
	if n := variations(shift(list, big.NewRat(1, 1))); n < 2 {
		return n
	}
	middle := half(a, b)
	number := between(p, a, middle) + between(p, middle, b)
	if valueAt(p, middle).Sign() == 0 {
		number++
	}
	return number
}

// rootsIn returns the number of roots of p, which has no multiple ones, that are greater than a, and at most b, where a is at most b.
func rootsIn(p []*big.Rat, a, b *big.Rat) int {
	if a.Cmp(b) == 0 {
		return 0
	}
	number := between(p, a, b)
	if valueAt(p, b).Sign() == 0 {
		number++
	}
	return number
}

// spot is the value of a representation: the only root of a polynomial, which has no multiple ones, that is greater than low, and at most high.
type spot struct {
	poly      []*big.Rat
	low, high *big.Rat
}

// spotOf returns the value of a representation that is valid.
func spotOf(x api.Real) spot {
	return spot{poly: value(x.Poly), low: quantity(x.In.Low), high: quantity(x.In.High)}
}

// compare returns the sign of x - r, by the definition.
func (x spot) compare(r *big.Rat) int {
	switch {
	case r.Cmp(x.low) <= 0:
		return 1
	case r.Cmp(x.high) > 0 || rootsIn(x.poly, r, x.high) == 0 && valueAt(x.poly, r).Sign() != 0:
		return -1
	case valueAt(x.poly, r).Sign() == 0:
		return 0
	}
	return 1
}

// halved returns the value with the half of its interval: at its only root in the interval, which is simple, the polynomial changes its sign.
func (x spot) halved() spot {
	middle := half(x.low, x.high)
	atMiddle, atHigh := valueAt(x.poly, middle).Sign(), valueAt(x.poly, x.high).Sign()
	if atHigh == 0 || atMiddle*atHigh < 0 {
		return spot{x.poly, middle, x.high}
	}
	return spot{x.poly, x.low, middle}
}

// isRoot says whether p is 0 at x.
func (x spot) isRoot(p []*big.Rat) bool {
	return len(p) == 0 || rootsIn(common(p, x.poly), x.low, x.high) > 0
}

// sign returns the sign of p at x.
func (x spot) sign(p []*big.Rat) int {
	if x.isRoot(p) {
		return 0
	}
	for {
		low, high := valueRange(p, x.low, x.high)
		if low.Sign() == high.Sign() && low.Sign() != 0 {
			return low.Sign()
		}
		x = x.halved()
	}
}

// valueRange returns numbers between which all values of p at the numbers from a to b lie, by Horner's rule with intervals.
func valueRange(p []*big.Rat, a, b *big.Rat) (*big.Rat, *big.Rat) {
	low, high := new(big.Rat), new(big.Rat)
	for _, c := range slices.Backward(p) {
		var ends []*big.Rat
		for _, u := range []*big.Rat{low, high} {
			for _, v := range []*big.Rat{a, b} {
				product := new(big.Rat).Mul(u, v)
				ends = append(ends, product.Add(product, c))
			}
		}
		low, high = slices.MinFunc(ends, (*big.Rat).Cmp), slices.MaxFunc(ends, (*big.Rat).Cmp)
	}
	return low, high
}

// order returns the sign of x - y.
func (x spot) order(y spot) int {
	low, high := x.low, x.high
	if y.low.Cmp(low) > 0 {
		low = y.low
	}
	if y.high.Cmp(high) < 0 {
		high = y.high
	}
	// A common root of both polynomials in both intervals is both values.
	if low.Cmp(high) < 0 && rootsIn(common(x.poly, y.poly), low, high) > 0 {
		return 0
	}
	for {
		if x.high.Cmp(y.low) <= 0 {
			return -1
		}
		if y.high.Cmp(x.low) <= 0 {
			return 1
		}
		x, y = x.halved(), y.halved()
	}
}

// random returns the canonical list of a polynomial that is not 0 and has up to n coefficients, some of them 0, which are small or have several bytes.
func random(r *rand.Rand, n int) []api.Int {
	bound := new(big.Int).Lsh(big.NewInt(1), []uint{1, 2, 3, 7, 33}[r.Intn(5)])
	p := make([]api.Int, 1+r.Intn(n))
	for i := range p {
		c := new(big.Int).Rand(r, bound)
		if r.Intn(4) == 0 {
			c.SetInt64(0)
		}
		if i == len(p)-1 {
			c.Add(c, big.NewInt(1))
		}
		if r.Intn(2) == 0 {
			c.Neg(c)
		}
		p[i] = whole(c)
	}
	return p
}

// place returns a random number, often an integer or a half.
func place(r *rand.Rand) *big.Rat {
	return big.NewRat(int64(r.Intn(41)-20), []int64{1, 1, 2, 2, 3, 4, 7, 60}[r.Intn(8)])
}

// linear returns the primitive polynomial with the root r.
func linear(r *big.Rat) []api.Int {
	return []api.Int{whole(new(big.Int).Neg(r.Num())), whole(r.Denom())}
}

// product returns the product of polynomials, which has no error.
func product(t *testing.T, list ...[]api.Int) []api.Int {
	t.Helper()
	result := of(1)
	for _, p := range list {
		next, e := polynomial.Mul(result, p)
		if e != api.OK {
			t.Fatalf("a product of degree %d and %d: %d", len(result)-1, len(p)-1, e)
		}
		result = next
	}
	return result
}

// far is greater than all roots of the polynomials that random and edges make.
var far = new(big.Rat).SetInt(new(big.Int).Lsh(big.NewInt(1), 35))

// realsOf returns representations of all roots of p, which is not 0, with intervals whose ends are halves, thirds and so on of others, or roots themselves.
func realsOf(r *rand.Rand, p []api.Int) []api.Real {
	simple, e := polynomial.Squarefree(p)
	if e != api.OK || len(simple) < 2 {
		return nil
	}
	var list []api.Real
	var separate func(low, high *big.Rat)
	separate = func(low, high *big.Rat) {
		n := rootsIn(value(simple), low, high)
		if n == 1 && (r.Intn(3) == 0 || high.Cmp(big.NewRat(1000, 1)) < 0 && low.Cmp(big.NewRat(-1000, 1)) > 0) {
			list = append(list, realIn(low, high, simple))
		} else if n > 0 {
			// What lies between low and high, in the ratio of small numbers.
			width := new(big.Rat).Sub(high, low)
			part := width.Mul(width, big.NewRat(1+r.Int63n(2), 2+r.Int63n(2)))
			middle := part.Add(part, low)
			if middle.Cmp(high) == 0 {
				middle = half(low, high)
			}
			// Near roots that are rational, the interval ends at them.
			if near := new(big.Rat).SetInt64(r.Int63n(9) - 4); near.Cmp(low) > 0 && near.Cmp(high) < 0 {
				middle = near
			}
			separate(low, middle)
			separate(middle, high)
		}
	}
	separate(new(big.Rat).Neg(far), far)
	return list
}

// edges returns representations at which something changes.
func edges() []api.Real {
	return []api.Real{
		// Rational values: inside of the interval, and at its upper end.
		realOf(-1, 0, 0, 1), realOf(-1, 1, 0, 1), realOf(0, 1, -1, 1), realOf(0, 2, -1, 1), realOf(-2, -1, 1, 1), realOf(-2, 0, 1, 1), realOf(0, 2, -2, 1), realOf(-8, 8, -2, 1), realOf(0, 1, -1, 2), realOf(-1, 0, 1, 2), realOf(-1, 1, -1, 3),
		realIn(big.NewRat(5, 2), big.NewRat(7, 2), of(-7, 2)), realIn(big.NewRat(-9, 2), big.NewRat(-7, 2), of(7, 2)),
		// Rational values of polynomials of higher degree, and other roots at the lower end.
		realOf(0, 3, -4, 0, 1), realOf(0, 2, -4, 0, 1), realOf(-2, 2, -4, 0, 1), realOf(-3, 0, -4, 0, 1), realOf(-3, -2, -4, 0, 1), realOf(0, 1, 0, -1, 0, 1), realOf(-1, 0, 0, -1, 0, 1), realOf(-2, -1, 0, -1, 0, 1), realOf(1, 2, 2, -3, 1),
		// The roots of x^2 - 2 and x^2 - x - 1, by several polynomials.
		realOf(1, 2, -2, 0, 1), realOf(0, 8, -2, 0, 1), realOf(-2, -1, -2, 0, 1), realOf(0, 3, 10, -2, -5, 1), realOf(1, 2, 2, -2, -1, 1), realOf(1, 2, -4, 0, 0, 0, 1), realOf(0, 2, 0, -2, 0, 1),
		realOf(1, 2, -1, -1, 1), realOf(-1, 0, -1, -1, 1), realOf(0, 4, -1, -1, 1), realOf(1, 3, 0, -1, -1, 1), realOf(0, 2, -1, -2, 0, 1),
		// Others.
		realOf(1, 2, -2, 0, 0, 1), realOf(1, 2, -3, 0, 1), realOf(1, 2, -5, 0, 0, 0, 0, 1), realOf(0, 1, -1, 1, 0, 1), realOf(0, 1, 1, 0, 0, -3, 0, 1), realOf(0, 1, 1, -3, 0, 1), realOf(1, 2, 1, -3, 0, 1), realOf(-2, -1, 1, -3, 0, 1),
	}
}

// reals returns the edges and representations of the roots of random polynomials with up to n coefficients, some of them with rational roots beside others.
func reals(t *testing.T, seed int64, count, n int) []api.Real {
	t.Helper()
	r := rand.New(rand.NewSource(seed))
	list := edges()
	for len(list) < count {
		p := random(r, n)
		for range r.Intn(3) {
			p = product(t, p, linear(place(r)))
		}
		list = append(list, realsOf(r, p)...)
	}
	return list
}

// compare returns the sign of a - b, which has no error.
func compare(t *testing.T, a, b api.Real) int {
	t.Helper()
	n, e := algebraic.Compare(a, b)
	if e != api.OK || n < -1 || n > 1 {
		t.Fatalf("%s, compared with %s: %d, %d", text(a), text(b), n, e)
	}
	return n
}

// compareRat returns the sign of a - r, which has no error.
func compareRat(t *testing.T, a api.Real, r *big.Rat) int {
	t.Helper()
	n, e := algebraic.CompareRat(a, number(r))
	if e != api.OK || n < -1 || n > 1 {
		t.Fatalf("%s, compared with %s: %d, %d", text(a), r, n, e)
	}
	return n
}

// sign returns the sign of p at a, which has no error.
func sign(t *testing.T, p []api.Int, a api.Real) int {
	t.Helper()
	n, e := algebraic.Sign(p, a)
	if e != api.OK || n < -1 || n > 1 {
		t.Fatalf("the sign of %s at %s: %d, %d", polynomial.Print(p), text(a), n, e)
	}
	return n
}

// power returns the sign of a^n - m, which has no error.
func power(t *testing.T, a api.Real, n int, m *big.Int) int {
	t.Helper()
	s, e := algebraic.ComparePower(a, n, whole(m))
	if e != api.OK || s < -1 || s > 1 {
		t.Fatalf("the power %d of %s, compared with %s: %d, %d", n, text(a), m, s, e)
	}
	return s
}

// floor returns the floor of a, which has no error.
func floor(t *testing.T, a api.Real) *big.Int {
	t.Helper()
	n, e := algebraic.Floor(a)
	if e != api.OK || n != whole(size(n)) {
		t.Fatalf("the floor of %s: %v, %d", text(a), n, e)
	}
	return size(n)
}

// digits returns the digits of a, which have no error.
func digits(t *testing.T, a api.Real, places int) *big.Rat {
	t.Helper()
	d, e := algebraic.Digits(a, places)
	if e != api.OK || d != number(quantity(d)) {
		t.Fatalf("%d digits of %s: %v, %d", places, text(a), d, e)
	}
	return quantity(d)
}

// greatest returns the greatest root of p, which there is.
func greatest(t *testing.T, p []api.Int) api.Real {
	t.Helper()
	x, e := algebraic.Greatest(p)
	if e != api.OK {
		t.Fatalf("the greatest root of %s: %d", polynomial.Print(p), e)
	}
	return x
}

// simplified returns the square-free polynomial of p, which is not 0 or too large.
func simplified(t *testing.T, p []api.Int) []api.Int {
	t.Helper()
	q, e := polynomial.Squarefree(p)
	if e != api.OK {
		t.Fatalf("the square-free polynomial of %s: %d", polynomial.Print(p), e)
	}
	return q
}
