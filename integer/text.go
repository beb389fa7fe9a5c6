package integer

import (
	"strconv"
	"strings"

	"groove/api"
)

// A group of decimal digits is what the greatest power of ten in a natural's digit can hold.
const (
	groupDigits = 9
	groupBase   = 1000000000
)

// Print returns the text of a.
func Print(a api.Int) string {
	number := magnitude(a)
	if len(number) == 0 {
		return "0"
	}
	var text strings.Builder
	if a.Neg {
		text.WriteByte('-')
	}
	groups := decimalGroups(number)
	for i := len(groups) - 1; i >= 0; i-- {
		group := strconv.Itoa(int(groups[i]))
		if i < len(groups)-1 {
			text.WriteString(strings.Repeat("0", groupDigits-len(group)))
		}
		text.WriteString(group)
	}
	return text.String()
}

// decimalGroups returns the digits of a number to the base of the groups, the least significant one first.
func decimalGroups(number natural) []uint32 {
	var groups []uint32
	for len(number) > 0 {
		quotient, group := divideSmall(number, groupBase)
		groups = append(groups, group)
		number = quotient
	}
	return groups
}

// Parse returns the integer with the text s.
func Parse(s string) (api.Int, api.Errno) {
	if len(s) > api.MaxText {
		return api.Int{}, api.ErrLimit
	}
	digits, negative := strings.CutPrefix(s, "-")
	if !isDecimal(digits) || negative && digits == "0" {
		return api.Int{}, api.ErrSyntax
	}
	return signed(negative, fromDecimal(digits)), api.OK
}

// isDecimal returns whether digits are the decimal digits of a number from 0 on, without leading zeros.
func isDecimal(digits string) bool {
	if digits == "" || len(digits) > 1 && digits[0] == '0' {
		return false
	}
	for i := range len(digits) {
		if digits[i] < '0' || digits[i] > '9' {
			return false
		}
	}
	return true
}

// fromDecimal returns the number with some decimal digits.
func fromDecimal(digits string) natural {
	var number natural
	for start := 0; start < len(digits); start += groupDigits {
		group := digits[start:min(start+groupDigits, len(digits))]
		var base, value uint32 = 1, 0
		for i := range len(group) {
			base *= 10
			value = 10*value + uint32(group[i]-'0')
		}
		number = multiplyAdd(number, base, value)
	}
	return number
}
