package polynomial

import (
	"strconv"
	"strings"

	"groove/api"
	"groove/integer"
)

// Print returns the text of p.
func Print(p []api.Int) string {
	var text strings.Builder
	for exponent, c := range terms(p) {
		size := c
		if isNegative(c) {
			size = integer.Neg(c)
		}
		text.WriteString(sign(isNegative(c), text.Len() == 0))
		text.WriteString(term(size, exponent))
	}
	if text.Len() == 0 {
		return "0"
	}
	return text.String()
}

// sign returns what stands before a term, which can be the first one.
func sign(negative, first bool) string {
	switch {
	case first && negative:
		return "-"
	case first:
		return ""
	case negative:
		return " - "
	}
	return " + "
}

// term returns the text of a term whose coefficient has an absolute value that is not 0.
func term(size api.Int, exponent int) string {
	number := integer.Print(size)
	if exponent == 0 {
		return number
	}
	power := "x"
	if exponent > 1 {
		power += "^" + strconv.Itoa(exponent)
	}
	if number == "1" {
		return power
	}
	return number + "*" + power
}
