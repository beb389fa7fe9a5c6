package polynomial_test

import (
	"math/big"
	"math/rand"
	"slices"
	"testing"

	"groove/api"
	"groove/integer"
	"groove/polynomial"
)

// size returns the value of an integer, by its definition.
func size(a api.Int) *big.Int {
	n := new(big.Int).SetBytes([]byte(a.Mag))
	if a.Neg {
		n.Neg(n)
	}
	return n
}

// whole returns the canonical integer with the value n, by its definition.
func whole(n *big.Int) api.Int {
	return api.Int{Neg: n.Sign() < 0, Mag: string(n.Bytes())}
}

// number returns the canonical rational number with the value n, by its definition.
func number(n *big.Rat) api.Rat {
	return api.Rat{Num: whole(n.Num()), Den: whole(n.Denom())}
}

// quantity returns the value of a rational number, by its definition.
func quantity(r api.Rat) *big.Rat {
	if size(r.Den).Sign() == 0 {
		return new(big.Rat)
	}
	return new(big.Rat).SetFrac(size(r.Num), size(r.Den))
}

// value returns the coefficients of p up to that of its degree, by the definition.
func value(p []api.Int) []*big.Rat {
	var list []*big.Rat
	for _, c := range p {
		list = append(list, new(big.Rat).SetInt(size(c)))
	}
	return trim(list)
}

// trim returns a list without the zeros at its end.
func trim(list []*big.Rat) []*big.Rat {
	for len(list) > 0 && list[len(list)-1].Sign() == 0 {
		list = list[:len(list)-1]
	}
	return list
}

// canonical returns the canonical list of p, by the definition.
func canonical(p []api.Int) []api.Int {
	return integers(value(p))
}

// primitive returns the primitive polynomial of which a polynomial with rational coefficients is a multiple, by the definition; 0 for 0.
func primitive(list []*big.Rat) []api.Int {
	if len(list) == 0 {
		return nil
	}
	multiple, divisor := big.NewInt(1), new(big.Int)
	for _, c := range list {
		multiple.Mul(multiple, c.Denom())
	}
	var numbers []*big.Int
	for _, c := range list {
		n := new(big.Int).Mul(c.Num(), new(big.Int).Quo(multiple, c.Denom()))
		numbers = append(numbers, n)
		divisor.GCD(nil, nil, divisor, new(big.Int).Abs(n))
	}
	if list[len(list)-1].Sign() < 0 {
		divisor.Neg(divisor)
	}
	var p []api.Int
	for _, n := range numbers {
		p = append(p, whole(n.Quo(n, divisor)))
	}
	return p
}

// isPrimitive says whether p is primitive, by the definition.
func isPrimitive(p []api.Int) bool {
	list := value(p)
	if len(list) == 0 || list[len(list)-1].Sign() < 0 {
		return false
	}
	divisor := new(big.Int)
	for _, c := range list {
		divisor.GCD(nil, nil, divisor, new(big.Int).Abs(c.Num()))
	}
	return divisor.Cmp(big.NewInt(1)) == 0
}

// integers returns the canonical list of the polynomial with these coefficients, which are integers.
func integers(list []*big.Rat) []api.Int {
	var p []api.Int
	for _, c := range trim(list) {
		p = append(p, whole(c.Num()))
	}
	return p
}

// zeros returns n times 0.
func zeros(n int) []*big.Rat {
	list := make([]*big.Rat, n)
	for i := range list {
		list[i] = new(big.Rat)
	}
	return list
}

// multiply returns a * b, by the definition.
func multiply(a, b []*big.Rat) []*big.Rat {
	list := zeros(len(a) + len(b))
	for i, x := range a {
		for j, y := range b {
			list[i+j].Add(list[i+j], new(big.Rat).Mul(x, y))
		}
	}
	return trim(list)
}

// divideRational returns quotient and rest of the division of a by b, which is not 0, with rational coefficients.
func divideRational(a, b []*big.Rat) ([]*big.Rat, []*big.Rat) {
	rest := slices.Clone(a)
	quotient := make([]*big.Rat, max(0, len(a)-len(b)+1))
	for i := len(quotient) - 1; i >= 0; i-- {
		quotient[i] = new(big.Rat).Quo(rest[i+len(b)-1], b[len(b)-1])
		for j, c := range b {
			rest[i+j] = new(big.Rat).Sub(rest[i+j], new(big.Rat).Mul(quotient[i], c))
		}
	}
	return quotient, trim(rest)
}

// same says whether p is the canonical list of q.
func same(p, q []api.Int) bool {
	return slices.Equal(p, canonical(q))
}

// of returns the polynomial with these coefficients.
func of(list ...int64) []api.Int {
	var p []api.Int
	for _, n := range list {
		p = append(p, whole(big.NewInt(n)))
	}
	return p
}

// raw returns the number n / d with just these integers.
func raw(n, d int64) api.Rat {
	return api.Rat{Num: whole(big.NewInt(n)), Den: whole(big.NewInt(d))}
}

// monomial returns n * x^exponent.
func monomial(n int64, exponent int) []api.Int {
	p := make([]api.Int, exponent+1)
	p[exponent] = whole(big.NewInt(n))
	return p
}

// loose returns a list of the same polynomial, which is not canonical: with zero bytes before coefficients, and with zeros of all kinds, some of them at the end.
func loose(r *rand.Rand, p []api.Int) []api.Int {
	zeros := []api.Int{{}, {Neg: true}, {Mag: "\x00"}, {Neg: true, Mag: "\x00\x00"}}
	var list []api.Int
	for _, c := range p {
		if size(c).Sign() == 0 {
			c = zeros[r.Intn(len(zeros))]
		} else if r.Intn(2) == 0 {
			c.Mag = "\x00" + c.Mag
		}
		list = append(list, c)
	}
	for range r.Intn(4) {
		list = append(list, zeros[r.Intn(len(zeros))])
	}
	return list
}

// random returns a polynomial with up to n coefficients, some of them 0, which are small or have several bytes; its list can be of any kind.
func random(r *rand.Rand, n int) []api.Int {
	p := make([]api.Int, r.Intn(n+1))
	bound := new(big.Int).Lsh(big.NewInt(1), []uint{2, 4, 9, 70}[r.Intn(4)])
	for i := range p {
		if r.Intn(4) > 0 {
			c := new(big.Int).Rand(r, bound)
			if r.Intn(2) == 0 {
				c.Neg(c)
			}
			p[i] = whole(c)
		}
	}
	if r.Intn(3) == 0 {
		return loose(r, p)
	}
	return p
}

// edges returns polynomials at which something changes.
func edges() [][]api.Int {
	return [][]api.Int{
		nil, {}, of(0), of(0, 0, 0), {{Neg: true}, {Mag: "\x00"}, {Neg: true, Mag: "\x00\x00"}},
		of(1), of(-1), of(2), of(-6), of(255), of(-256), of(7, 0), {{Mag: "\x00\x07"}, {Neg: true}},
		of(0, 1), of(0, -1), of(0, 2), of(1, 1), of(-1, 1), of(1, -1), of(-2, 2), of(3, 2), of(2, -4), of(-3, -6, 0, 0),
		of(0, 0, 1), of(0, 0, -1), of(1, 0, 1), of(-1, 0, 1), of(1, 2, 1), of(-2, 0, 2), of(6, -5, 1), of(1, -2, 0, 1), of(0, 0, -4, 4), of(1, 0, 2, 0, 1), of(4, 0, 0, 0, -9),
		{{Mag: "\x00\x05"}, {Neg: true}, {Neg: true, Mag: "\x01\x00"}, {Mag: "\x00"}},
		{{Neg: true, Mag: "\x00\x02"}, {Mag: "\x00\x00\x02"}, {Neg: true, Mag: "\x00"}, {}},
	}
}

// samples returns the edges and a number of random polynomials.
func samples(seed int64, n int) [][]api.Int {
	r := rand.New(rand.NewSource(seed))
	list := edges()
	for i := range n {
		list = append(list, random(r, 2+i%12))
	}
	return list
}

// pairs calls f for all pairs of edges, and for random pairs.
func pairs(seed int64, n int, f func(a, b []api.Int)) {
	list := edges()
	for _, a := range list {
		for _, b := range list {
			f(a, b)
		}
	}
	r := rand.New(rand.NewSource(seed))
	for i := range n {
		f(random(r, 2+i%12), random(r, 2+i/5%9))
	}
}

// product returns a * b, which has no error.
func product(t *testing.T, a, b []api.Int) []api.Int {
	t.Helper()
	p, e := polynomial.Mul(a, b)
	if e != api.OK {
		t.Fatalf("%v * %v: %d", value(a), value(b), e)
	}
	return p
}

// common returns the greatest common divisor of a and b, which has no error.
func common(t *testing.T, a, b []api.Int) []api.Int {
	t.Helper()
	p, e := polynomial.Gcd(a, b)
	if e != api.OK {
		t.Fatalf("P3.4: the common divisor of %v and %v: %d", value(a), value(b), e)
	}
	return p
}

// simple returns the square-free polynomial of p, which is not 0.
func simple(t *testing.T, p []api.Int) []api.Int {
	t.Helper()
	s, e := polynomial.Squarefree(p)
	if e != api.OK {
		t.Fatalf("P3.6: the square-free polynomial of %v: %d", value(p), e)
	}
	return s
}

// at returns the value of p at r, which has no error.
func at(t *testing.T, p []api.Int, r api.Rat) api.Rat {
	t.Helper()
	v, e := polynomial.At(p, r)
	if e != api.OK {
		t.Fatalf("P3.5: %v at %s: %d", value(p), quantity(r), e)
	}
	return v
}

// times returns n times p.
func times(n int, p []api.Int) []api.Int {
	var list []api.Int
	for _, c := range p {
		list = append(list, integer.Mul(c, integer.Of(n)))
	}
	return list
}
