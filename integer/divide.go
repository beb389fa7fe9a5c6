package integer

import (
	"iter"
	"math/bits"
)

// divideSmall returns the quotient of x and a divisor that is not 0, and the rest.
func divideSmall(x natural, divisor uint32) (natural, uint32) {
	quotient := make(natural, len(x))
	var rest uint64
	for i := len(x) - 1; i >= 0; i-- {
		rest = rest<<32 | uint64(x[i])
		quotient[i] = uint32(rest / uint64(divisor))
		rest %= uint64(divisor)
	}
	return trim(quotient), uint32(rest)
}

// divide returns the quotient of x and y, which is not 0, and the rest.
func divide(x, y natural) (natural, natural) {
	if compare(x, y) < 0 {
		return nil, x
	}
	if len(y) == 1 {
		quotient, rest := divideSmall(x, y[0])
		return quotient, trim(natural{rest})
	}
	// A divisor whose first digit has its first bit makes the estimates of the digits of the quotient nearly right.
	factor := uint32(1) << bits.LeadingZeros32(y[len(y)-1])
	quotient, rest := divideLong(multiplyAdd(x, factor, 0), multiplyAdd(y, factor, 0))
	rest, _ = divideSmall(rest, factor)
	return quotient, rest
}

// divideLong returns the quotient of x and y, and the rest; y has at least two digits, the first bit of its first digit is set, and x is not less than y.
func divideLong(x, y natural) (natural, natural) {
	rest := make(natural, len(x)+1)
	copy(rest, x)
	quotient := make(natural, len(x)-len(y)+1)
	for i := len(quotient) - 1; i >= 0; i-- {
		part := rest[i : i+len(y)+1]
		digit := estimate(part, y)
		if takeMultiple(part, y, digit) {
			putBack(part, y)
			digit--
		}
		quotient[i] = digit
	}
	return trim(quotient), trim(rest)
}

// estimate returns the quotient of part and y, which is one digit, or the number behind it; part has one digit more than y.
func estimate(part, y natural) uint32 {
	n := len(y)
	first, second := uint64(y[n-1]), uint64(y[n-2])
	top := uint64(part[n])<<32 | uint64(part[n-1])
	digit, rest := top/first, top%first
	for rest>>32 == 0 && (digit>>32 > 0 || digit*second > rest<<32|uint64(part[n-2])) {
		digit--
		rest += first
	}
	return uint32(digit)
}

// takeMultiple takes digit * y from part in place, and returns whether this was too much.
func takeMultiple(part, y natural, digit uint32) bool {
	var carry uint64
	var borrow uint32
	for i, other := range y {
		carry += uint64(digit) * uint64(other)
		part[i], borrow = bits.Sub32(part[i], uint32(carry), borrow)
		carry >>= 32
	}
	part[len(y)], borrow = bits.Sub32(part[len(y)], uint32(carry), borrow)
	return borrow > 0
}

// putBack adds y to part in place; the carry behind the last digit makes up for what was borrowed there.
func putBack(part, y natural) {
	var carry uint32
	for i, other := range y {
		part[i], carry = bits.Add32(part[i], other, carry)
	}
	part[len(y)] += carry
}

// euclid yields the pairs of Euclid's algorithm; the second number of the last one is 0, and the first one divides all of them.
func euclid(x, y natural) iter.Seq2[natural, natural] {
	return func(yield func(natural, natural) bool) {
		for yield(x, y) && len(y) > 0 {
			_, rest := divide(x, y)
			x, y = y, rest
		}
	}
}
