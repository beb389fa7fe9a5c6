package word_test

import (
	"math"
	"math/big"
	"math/rand"
	"strings"
	"testing"

	"groove/api"
	"groove/samples"
	"groove/word"
)

// letters are the letters by the document, in their order.
const letters = "0123456789abcdef"

// whole returns the canonical integer with the value n, by its definition.
func whole(n *big.Int) api.Int {
	return api.Int{Neg: n.Sign() < 0, Mag: string(n.Bytes())}
}

// of returns the canonical integer with the value n.
func of(n int) api.Int {
	return whole(big.NewInt(int64(n)))
}

// loose returns integers that are not canonical.
func loose() []api.Int {
	return []api.Int{{Neg: true}, {Mag: "\x00"}, {Neg: true, Mag: "\x00"}, {Mag: "\x00\x01"}, {Neg: true, Mag: "\x00\x05"}, {Mag: "\x00\x00\x00\x00\x00\x00\x00\x00\x00\x00"}}
}

// power returns the number of words of n letters over q letters.
func power(q, n int) *big.Int {
	return new(big.Int).Exp(big.NewInt(int64(q)), big.NewInt(int64(n)), nil)
}

// noAlphabets returns numbers of letters that no alphabet has.
func noAlphabets() []int {
	return []int{0, -1, -2, -16, api.MaxLetter + 1, api.MaxLetter + 2, 64, 256, math.MaxInt32 + 1, math.MaxInt, math.MinInt, math.MinInt + 1}
}

// fibonacci returns the word of Fibonacci with the number n, which has many borders and a great root.
func fibonacci(n int) string {
	a, b := "0", "01"
	for range n {
		a, b = b, b+a
	}
	return a
}

// mixed returns strings of all kinds: all short ones over two letters, strings of other bytes, repeated ones and nearly repeated ones.
func mixed(seed int64) []string {
	r := rand.New(rand.NewSource(seed))
	list := append(samples.StringsUpTo("01", 9), samples.StringsUpTo("\x00\xff\xc3", 4)...)
	for n := range 12 {
		list = append(list, fibonacci(n), fibonacci(n)+"0", strings.Repeat("é", n), strings.Repeat("01", n)+"1")
	}
	for i := range 300 {
		u := samples.String(r, []string{"01", "012", letters, "\x80\xff", " x\x00é"}[i%5], 1+i%17)
		w := strings.Repeat(u, 1+r.Intn(6))
		list = append(list, w, w+u[:r.Intn(len(u))], samples.String(r, u, 40))
	}
	return list
}

// rankOf returns the rank of a word that is valid.
func rankOf(t *testing.T, q int, w string) api.Int {
	t.Helper()
	a, e := word.Rank(q, w)
	if e != api.OK {
		t.Fatalf("P7.3: Rank of %q over %d letters: %d", w, q, e)
	}
	return a
}

// short returns the beginning of a long word for a message.
func short(w string) string {
	if len(w) > 40 {
		return w[:40] + ".."
	}
	return w
}
