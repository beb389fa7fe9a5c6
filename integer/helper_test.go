package integer_test

import (
	"math/big"
	"math/rand"
	"testing"

	"groove/api"
	"groove/integer"
)

// value returns the value of a, by its definition.
func value(a api.Int) *big.Int {
	n := new(big.Int).SetBytes([]byte(a.Mag))
	if a.Neg {
		n.Neg(n)
	}
	return n
}

// canonical returns the canonical integer with the value n, by its definition.
func canonical(n *big.Int) api.Int {
	return api.Int{Neg: n.Sign() < 0, Mag: string(n.Bytes())}
}

// same says whether a is the canonical integer with the value n.
func same(a api.Int, n *big.Int) bool {
	return a == canonical(n)
}

// number returns the canonical integer with a text.
func number(t *testing.T, s string) api.Int {
	t.Helper()
	n, ok := new(big.Int).SetString(s, 10)
	if !ok {
		t.Fatalf("%q is no number", s)
	}
	return canonical(n)
}

// twoTo returns 2^n + d.
func twoTo(n uint, d int64) api.Int {
	p := new(big.Int).Lsh(big.NewInt(1), n)
	return canonical(p.Add(p, big.NewInt(d)))
}

// pick returns one of a few bytes: those at which carries, borrows and estimates of digits are decided, and random ones.
func pick(r *rand.Rand) byte {
	switch r.Intn(6) {
	case 0:
		return 0x00
	case 1:
		return 0xff
	case 2:
		return 0x80
	case 3:
		return 0x7f
	case 4:
		return 0x01
	}
	return byte(r.Intn(256))
}

// blocks returns a word of up to n bytes, in stretches of equal ones.
func blocks(r *rand.Rand, n int) string {
	var mag []byte
	for size := r.Intn(n + 1); len(mag) < size; {
		b := pick(r)
		for k := 1 + r.Intn(9); k > 0 && len(mag) < size; k-- {
			mag = append(mag, b)
		}
	}
	return string(mag)
}

// random returns an integer of up to n bytes, canonical or not.
func random(r *rand.Rand, n int) api.Int {
	return api.Int{Neg: r.Intn(2) == 0, Mag: blocks(r, n)}
}

// loose returns integers that are not canonical, and others with their values.
func loose() []api.Int {
	return []api.Int{
		{Neg: true}, {Mag: "\x00"}, {Neg: true, Mag: "\x00"}, {Neg: true, Mag: "\x00\x00\x00\x00\x00"}, {Mag: "\x00\x00\x00\x00\x00\x00\x00\x00\x00"},
		{Mag: "\x00\x01"}, {Neg: true, Mag: "\x00\x01"}, {Mag: "\x00\x00\x00\x00\x07"}, {Neg: true, Mag: "\x00\x00\x00\x00\x00\x00\x00\x00\x07"},
		{Mag: "\x00\x01\x00"}, {Neg: true, Mag: "\x00\x00\x01\x2c"},
		{Mag: "\x00\x7f\xff\xff\xff\xff\xff\xff\xff"}, {Mag: "\x00\x80\x00\x00\x00\x00\x00\x00\x00"},
		{Neg: true, Mag: "\x00\x80\x00\x00\x00\x00\x00\x00\x00"}, {Neg: true, Mag: "\x00\x80\x00\x00\x00\x00\x00\x00\x01"},
		{Mag: "\x00\x01\x00\x00\x00\x00\x00\x00\x00\x00"},
	}
}

// edges returns integers at which something changes, canonical ones and others.
func edges() []api.Int {
	list := loose()
	for _, n := range []int64{0, 1, 2, 3, 5, 7, 9, 10, 12, 18, 99, 100, 127, 255, 300} {
		list = append(list, canonical(big.NewInt(n)), canonical(big.NewInt(-n)))
	}
	for _, n := range []uint{8, 15, 16, 24, 31, 32, 33, 62, 63, 64, 65, 96, 127, 128, 129} {
		for d := int64(-1); d <= 1; d++ {
			a := twoTo(n, d)
			list = append(list, a, api.Int{Neg: true, Mag: a.Mag})
		}
	}
	for _, n := range []int64{9, 18, 27, 36} {
		for d := int64(-1); d <= 1; d++ {
			p := new(big.Int).Exp(big.NewInt(10), big.NewInt(n), nil)
			p.Add(p, big.NewInt(d))
			list = append(list, canonical(p), canonical(p.Neg(p)))
		}
	}
	return list
}

// samples returns the edges and a number of random integers.
func samples(seed int64, n int) []api.Int {
	r := rand.New(rand.NewSource(seed))
	list := edges()
	for i := range n {
		list = append(list, random(r, 4+i%40))
	}
	return list
}

// pairs calls f for all pairs of edges, and for random pairs of all sizes.
func pairs(seed int64, n int, f func(a, b api.Int)) {
	list := edges()
	for _, a := range list {
		for _, b := range list {
			f(a, b)
		}
	}
	r := rand.New(rand.NewSource(seed))
	for i := range n {
		f(random(r, 2+i%80), random(r, 2+i/7%60))
	}
}

// sum and product are short names of the functions.
func sum(a, b api.Int) api.Int     { return integer.Add(a, b) }
func product(a, b api.Int) api.Int { return integer.Mul(a, b) }
