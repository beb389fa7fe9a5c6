// Package integer is layer 1: integers of any size.
package integer

import (
	"cmp"
	"math/bits"
	"strings"

	"groove/api"
)

// Check returns OK if a is canonical, and ErrArgument otherwise.
func Check(a api.Int) api.Errno {
	if a != canonical(a) {
		return api.ErrArgument
	}
	return api.OK
}

// canonical returns the canonical integer with the value of a.
func canonical(a api.Int) api.Int {
	mag := strings.TrimLeft(a.Mag, "\x00")
	return api.Int{Neg: a.Neg && mag != "", Mag: mag}
}

// Of returns the integer with the value n.
func Of(n int) api.Int {
	size := uint64(n)
	if n < 0 {
		// The size of the least int is no int; wraparound makes it right.
		size = -size
	}
	return signed(n < 0, trim(natural{uint32(size), uint32(size >> 32)}))
}

// Small returns the value of a, and whether it is an int.
func Small(a api.Int) (int, bool) {
	if Bits(a) > 64 {
		return 0, false
	}
	var size uint64
	for i, digit := range magnitude(a) {
		size |= uint64(digit) << (32 * i)
	}
	if a.Neg {
		size = -size
	}
	value := int(size)
	if Compare(Of(value), a) != 0 {
		// The value has wrapped around.
		return 0, false
	}
	return value, true
}

// Neg returns -a.
func Neg(a api.Int) api.Int {
	return canonical(api.Int{Neg: !a.Neg, Mag: a.Mag})
}

// Add returns a + b.
func Add(a, b api.Int) api.Int {
	x, y := magnitude(a), magnitude(b)
	if a.Neg == b.Neg {
		return signed(a.Neg, add(x, y))
	}
	if compare(x, y) < 0 {
		return signed(b.Neg, subtract(y, x))
	}
	return signed(a.Neg, subtract(x, y))
}

// Sub returns a - b.
func Sub(a, b api.Int) api.Int {
	return Add(a, Neg(b))
}

// Mul returns a * b.
func Mul(a, b api.Int) api.Int {
	return signed(a.Neg != b.Neg, multiply(magnitude(a), magnitude(b)))
}

// Div returns the greatest integer q that is not greater than a / b, and a - q * b.
func Div(a, b api.Int) (api.Int, api.Int, api.Errno) {
	x, y := magnitude(a), magnitude(b)
	if len(y) == 0 {
		return api.Int{}, api.Int{}, api.ErrDivide
	}
	quotient, rest := divide(x, y)
	if a.Neg != b.Neg && len(rest) > 0 {
		// The quotient of the sizes was rounded towards 0; that of the integers has to go on to the next one below.
		quotient, rest = add(quotient, natural{1}), subtract(y, rest)
	}
	return signed(a.Neg != b.Neg, quotient), signed(b.Neg, rest), api.OK
}

// Gcd returns the greatest common divisor, 0 if both are 0.
func Gcd(a, b api.Int) api.Int {
	var divisor natural
	for number := range euclid(magnitude(a), magnitude(b)) {
		divisor = number
	}
	return signed(false, divisor)
}

// Compare returns -1 if a is less than b, 1 if it is greater, and 0 if they are equal.
func Compare(a, b api.Int) int {
	x, y := canonical(a), canonical(b)
	if x.Neg != y.Neg {
		if x.Neg {
			return -1
		}
		return 1
	}
	order := cmp.Or(cmp.Compare(len(x.Mag), len(y.Mag)), cmp.Compare(x.Mag, y.Mag))
	if x.Neg {
		return -order
	}
	return order
}

// Power returns a to the power n.
func Power(a api.Int, n int) (api.Int, api.Errno) {
	if n < 0 || n > api.MaxPower {
		return api.Int{}, api.ErrRange
	}
	if n*Bits(a) > api.MaxText {
		return api.Int{}, api.ErrLimit
	}
	return signed(a.Neg && n%2 == 1, power(magnitude(a), n)), api.OK
}

// Root returns the greatest integer whose power n is at most a.
func Root(a api.Int, n int) (api.Int, api.Errno) {
	if canonical(a).Neg || n < 1 || n > api.MaxPower {
		return api.Int{}, api.ErrRange
	}
	return signed(false, root(magnitude(a), n)), api.OK
}

// Bits returns the least number n from 0 on for which the absolute value of a is less than 2^n.
func Bits(a api.Int) int {
	mag := canonical(a).Mag
	if mag == "" {
		return 0
	}
	return 8*(len(mag)-1) + bits.Len8(mag[0])
}
