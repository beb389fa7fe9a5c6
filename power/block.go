package power

import (
	"slices"
	"strings"

	"groove/api"
	"groove/word"
)

// Block returns the word of n letters over q letters that has a number.
func Block(q, n, label int) (string, api.Errno) {
	if e := word.Check(q, ""); e != api.OK {
		return "", e
	}
	if n < 0 || n > api.MaxBlock || label < 0 {
		return "", api.ErrRange
	}
	letters := make([]byte, n)
	for i := range slices.Backward(letters) {
		letters[i] = api.Letters[label%q]
		label /= q
	}
	// What is left would need further letters. (q to the power n itself can be too great for an int.)
	if label > 0 {
		return "", api.ErrRange
	}
	return string(letters), api.OK
}

// Label returns the number of a word over q letters among those with as many letters.
func Label(q int, w string) (int, api.Errno) {
	if e := word.Check(q, w); e != api.OK {
		return 0, e
	}
	if len(w) > api.MaxBlock {
		return 0, api.ErrRange
	}
	if !isFew(q, len(w)) {
		return 0, api.ErrLimit
	}
	number := 0
	for i := range len(w) {
		number = number*q + strings.IndexByte(api.Letters, w[i])
	}
	return number, api.OK
}

// isFew returns whether there are at most MaxLabel blocks of n labels, if there are q labels.
func isFew(q, n int) bool {
	number := 1
	for range n {
		number *= q
		if number > api.MaxLabel {
			return false
		}
	}
	return true
}
