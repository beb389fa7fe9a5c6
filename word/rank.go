package word

import (
	"groove/api"
	"groove/integer"
)

// short is the greatest length for which the ranks of all words are ints, over all alphabets.
const short = 15

// Rank returns the number of words that have the length of w and are less.
func Rank(q int, w string) (api.Int, api.Errno) {
	if e := Check(q, w); e != api.OK {
		return api.Int{}, e
	}
	return rank(q, w), api.OK
}

// Unrank returns the word of n letters with the rank a.
func Unrank(q, n int, a api.Int) (string, api.Errno) {
	if e := checkLength(q, n); e != api.OK {
		return "", e
	}
	if integer.Check(a) != api.OK {
		return "", api.ErrArgument
	}
	if a.Neg || integer.Compare(a, power(q, n)) >= 0 {
		return "", api.ErrRange
	}
	return unrank(q, n, a), api.OK
}

// rank returns the rank of a word: the number that has its letters as digits to the base q.
func rank(q int, w string) api.Int {
	if len(w) <= short {
		return integer.Of(shortRank(q, w))
	}
	// Halves make long words cheaper than going on letter by letter: only few numbers are long then.
	half := len(w) / 2
	return integer.Add(integer.Mul(rank(q, w[:half]), power(q, len(w)-half)), rank(q, w[half:]))
}

// shortRank returns the rank of a short word.
func shortRank(q int, w string) int {
	number := 0
	for _, letter := range []byte(w) {
		number = number*q + digit(letter)
	}
	return number
}

// unrank returns the word of n letters with the rank a, which exists.
func unrank(q, n int, a api.Int) string {
	if n <= short {
		number, _ := integer.Small(a)
		return shortUnrank(q, n, number)
	}
	half := n / 2
	left, right, _ := integer.Div(a, power(q, n-half))
	return unrank(q, half, left) + unrank(q, n-half, right)
}

// shortUnrank returns the short word of n letters with a rank.
func shortUnrank(q, n, number int) string {
	letters := make([]byte, n)
	for i := n - 1; i >= 0; i-- {
		letters[i] = api.Letters[number%q]
		number /= q
	}
	return string(letters)
}

// power returns q to the power n, which is not limited as that of layer 1.
func power(q, n int) api.Int {
	if n == 0 {
		return integer.Of(1)
	}
	root := power(q, n/2)
	square := integer.Mul(root, root)
	if n%2 == 0 {
		return square
	}
	return integer.Mul(square, integer.Of(q))
}
