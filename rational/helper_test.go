package rational_test

import (
	"math/big"
	"math/rand"
	"testing"

	"groove/api"
	"groove/integer"
	"groove/rational"
)

// size returns the value of an integer, by its definition.
func size(a api.Int) *big.Int {
	n := new(big.Int).SetBytes([]byte(a.Mag))
	if a.Neg {
		n.Neg(n)
	}
	return n
}

// whole returns the canonical integer with the value n, by its definition.
func whole(n *big.Int) api.Int {
	return api.Int{Neg: n.Sign() < 0, Mag: string(n.Bytes())}
}

// value returns the value of r, by its definition.
func value(r api.Rat) *big.Rat {
	if size(r.Den).Sign() == 0 {
		return new(big.Rat)
	}
	return new(big.Rat).SetFrac(size(r.Num), size(r.Den))
}

// canonical returns the canonical number with the value n, by its definition.
func canonical(n *big.Rat) api.Rat {
	return api.Rat{Num: whole(n.Num()), Den: whole(n.Denom())}
}

// same says whether r is the canonical number with the value n.
func same(r api.Rat, n *big.Rat) bool {
	return r == canonical(n)
}

// raw returns the number n / d with just these integers.
func raw(n, d int64) api.Rat {
	return api.Rat{Num: whole(big.NewInt(n)), Den: whole(big.NewInt(d))}
}

// number returns the canonical number n / d, where d is not 0.
func number(n, d int64) api.Rat {
	return canonical(big.NewRat(n, d))
}

// floor returns the greatest integer that is at most n.
func floor(n *big.Rat) *big.Int {
	// Euclid's quotient is the floor, since the denominator is greater than 0.
	return new(big.Int).Div(n.Num(), n.Denom())
}

// loose returns numbers that are not canonical.
func loose() []api.Rat {
	zeros, minus, padded := api.Int{Mag: "\x00\x00"}, api.Int{Neg: true}, api.Int{Mag: "\x00\x06"}
	one, two := integer.Of(1), integer.Of(2)
	return []api.Rat{
		// Den has the value 0.
		{}, {Num: one}, {Num: integer.Of(-7)}, {Den: zeros}, {Den: minus}, {Num: two, Den: zeros}, {Num: integer.Of(-2), Den: minus}, {Num: padded, Den: api.Int{Neg: true, Mag: "\x00"}},
		// Den is negative.
		raw(1, -1), raw(-1, -1), raw(3, -2), raw(-3, -2), raw(0, -1), raw(0, -5), raw(6, -4), raw(-6, -4), {Num: one, Den: api.Int{Neg: true, Mag: "\x00\x02"}},
		// Num and Den are not in lowest terms.
		raw(0, 2), raw(0, 256), raw(2, 2), raw(-2, 2), raw(6, 4), raw(-6, 4), raw(300, 200), raw(256, 512), raw(4, 2), raw(7, 7), raw(255, 255),
		// An integer is not canonical.
		{Num: minus, Den: one}, {Num: zeros, Den: one}, {Num: api.Int{Neg: true, Mag: "\x00"}, Den: two}, {Num: padded, Den: one}, {Num: padded, Den: integer.Of(5)}, {Num: one, Den: api.Int{Mag: "\x00\x01"}}, {Num: integer.Of(5), Den: padded}, {Num: padded, Den: padded}, {Num: api.Int{Neg: true, Mag: "\x00\x05"}, Den: padded},
	}
}

// edges returns numbers at which something changes, canonical ones and others.
func edges() []api.Rat {
	list := loose()
	for _, n := range []int64{0, 1, 2, 3, 4, 7, 12, 255, 256} {
		for _, d := range []int64{1, 2, 3, 5, 6, 256} {
			list = append(list, number(n, d), number(-n, d))
		}
	}
	wide := new(big.Int).Lsh(big.NewInt(1), 64)
	below := new(big.Int).Sub(wide, big.NewInt(1))
	for _, r := range []*big.Rat{new(big.Rat).SetInt(wide), new(big.Rat).SetInt(below), new(big.Rat).SetFrac(wide, below), new(big.Rat).SetFrac(below, wide), new(big.Rat).SetFrac(big.NewInt(1), wide)} {
		list = append(list, canonical(r), canonical(new(big.Rat).Neg(r)))
	}
	return list
}

// digits returns an integer of up to n bytes, sometimes with leading zeros.
func digits(r *rand.Rand, n int) api.Int {
	mag := make([]byte, r.Intn(n+1))
	for i := range mag {
		mag[i] = byte(r.Intn(256))
		if r.Intn(8) == 0 {
			mag[i] = 0
		}
	}
	return api.Int{Neg: r.Intn(2) == 0, Mag: string(mag)}
}

// random returns a number whose integers have up to n bytes, and often a common divisor.
func random(r *rand.Rand, n int) api.Rat {
	a := api.Rat{Num: digits(r, n), Den: digits(r, n)}
	if r.Intn(2) == 0 {
		factor := digits(r, n)
		a.Num, a.Den = integer.Mul(a.Num, factor), integer.Mul(a.Den, factor)
	}
	return a
}

// samples returns the edges and n random numbers.
func samples(seed int64, n int) []api.Rat {
	r := rand.New(rand.NewSource(seed))
	list := edges()
	for i := range n {
		list = append(list, random(r, 1+i%24))
	}
	return list
}

// pairs calls f for all pairs of edges, and for n random pairs.
func pairs(seed int64, n int, f func(a, b api.Rat)) {
	list := edges()
	for _, a := range list {
		for _, b := range list {
			f(a, b)
		}
	}
	r := rand.New(rand.NewSource(seed))
	for i := range n {
		f(random(r, 1+i%24), random(r, 1+i/5%24))
	}
}

// triples calls f for n random triples of samples.
func triples(seed int64, n int, f func(a, b, c api.Rat)) {
	list := samples(seed, 150)
	r := rand.New(rand.NewSource(seed))
	for range n {
		f(list[r.Intn(len(list))], list[r.Intn(len(list))], list[r.Intn(len(list))])
	}
}

// quotient returns a / b, where b is not 0.
func quotient(t *testing.T, a, b api.Rat) api.Rat {
	t.Helper()
	q, e := rational.Quo(a, b)
	if e != api.OK {
		t.Fatalf("P2.2: %s by %s: %d", value(a), value(b), e)
	}
	return q
}

// plus and times are short names of the functions.
func plus(a, b api.Rat) api.Rat  { return rational.Add(a, b) }
func times(a, b api.Rat) api.Rat { return rational.Mul(a, b) }
