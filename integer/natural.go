package integer

import (
	"math/bits"

	"groove/api"
)

// natural is a number from 0 on: its digits to the base 2^32, the least significant one first, without zeros at the end. The functions change none that they are given.
type natural []uint32

// magnitude returns the absolute value of a.
func magnitude(a api.Int) natural {
	mag := canonical(a).Mag
	number := make(natural, (len(mag)+3)/4)
	for i := range len(mag) {
		number[i/4] |= uint32(mag[len(mag)-1-i]) << (8 * (i % 4))
	}
	return number
}

// signed returns the number, or its opposite, as a canonical integer.
func signed(negative bool, number natural) api.Int {
	mag := make([]byte, 4*len(number))
	for i := range mag {
		mag[len(mag)-1-i] = byte(number[i/4] >> (8 * (i % 4)))
	}
	return canonical(api.Int{Neg: negative, Mag: string(mag)})
}

// trim returns the number without the zeros at its end.
func trim(digits natural) natural {
	for len(digits) > 0 && digits[len(digits)-1] == 0 {
		digits = digits[:len(digits)-1]
	}
	return digits
}

// compare returns -1 if x is less than y, 1 if it is greater, and 0 if they are equal.
func compare(x, y natural) int {
	if len(x) != len(y) {
		if len(x) < len(y) {
			return -1
		}
		return 1
	}
	for i := len(x) - 1; i >= 0; i-- {
		if x[i] < y[i] {
			return -1
		}
		if x[i] > y[i] {
			return 1
		}
	}
	return 0
}

// add returns x + y.
func add(x, y natural) natural {
	if len(x) < len(y) {
		x, y = y, x
	}
	sum := make(natural, len(x)+1)
	var carry uint64
	for i, digit := range x {
		carry += uint64(digit)
		if i < len(y) {
			carry += uint64(y[i])
		}
		sum[i] = uint32(carry)
		carry >>= 32
	}
	sum[len(x)] = uint32(carry)
	return trim(sum)
}

// subtract returns x - y, where y is at most x.
func subtract(x, y natural) natural {
	difference := make(natural, len(x))
	var borrow uint32
	for i, digit := range x {
		var other uint32
		if i < len(y) {
			other = y[i]
		}
		difference[i], borrow = bits.Sub32(digit, other, borrow)
	}
	return trim(difference)
}

// multiply returns x * y.
func multiply(x, y natural) natural {
	product := make(natural, len(x)+len(y))
	for i, digit := range x {
		var carry uint64
		for j, other := range y {
			carry += uint64(digit)*uint64(other) + uint64(product[i+j])
			product[i+j] = uint32(carry)
			carry >>= 32
		}
		product[i+len(y)] = uint32(carry)
	}
	return trim(product)
}

// multiplyAdd returns x * factor + summand.
func multiplyAdd(x natural, factor, summand uint32) natural {
	product := make(natural, len(x)+1)
	carry := uint64(summand)
	for i, digit := range x {
		carry += uint64(digit) * uint64(factor)
		product[i] = uint32(carry)
		carry >>= 32
	}
	product[len(x)] = uint32(carry)
	return trim(product)
}
