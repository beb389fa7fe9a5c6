package word

import (
	"iter"
	"slices"
)

// Find returns all offsets at which u occurs in w, in ascending order.
func Find(w, u string) []int {
	return slices.Collect(occurrences(w, u))
}

// Border returns the length of the longest proper border of w.
func Border(w string) int {
	table, _ := borders(w)
	return max(0, table[len(w)])
}

// Period returns the period of w.
func Period(w string) int {
	return len(w) - Border(w)
}

// Root returns the root of w, and the number of its copies.
func Root(w string) (string, int) {
	if w == "" {
		return "", 0
	}
	// If w consists of copies of a string, the length of the shortest one is the period.
	period := Period(w)
	if len(w)%period > 0 {
		return w, 1
	}
	return w[:period], len(w) / period
}

// Reverse returns the bytes of w in the opposite order.
func Reverse(w string) string {
	list := []byte(w)
	slices.Reverse(list)
	return string(list)
}

// borders returns the table of w: for the length of each of its beginnings that of the longest proper border, and -1 for the empty beginning, which has none.
// The function beside it follows the longest beginning of w with which a text ends: from its length, which is less than that of w, to its length behind one more letter of the text.
func borders(w string) ([]int, func(length int, letter byte) int) {
	table := make([]int, 1, len(w)+1)
	table[0] = -1
	extend := func(length int, letter byte) int {
		for length >= 0 && w[length] != letter {
			length = table[length]
		}
		return length + 1
	}
	for i := range len(w) {
		table = append(table, extend(table[i], w[i]))
	}
	return table, extend
}

// occurrences yields the offsets at which u occurs in w, in ascending order.
func occurrences(w, u string) iter.Seq[int] {
	return func(yield func(int) bool) {
		table, extend := borders(u)
		length := 0
		for end := 0; ; end++ {
			if length == len(u) {
				if !yield(end - length) {
					return
				}
				// The next occurrence can begin within this one.
				length = table[length]
			}
			if end == len(w) {
				return
			}
			length = extend(length, w[end])
		}
	}
}
