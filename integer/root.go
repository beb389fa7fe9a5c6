package integer

import "math/bits"

// power returns x to the power n, from 0 on.
func power(x natural, n int) natural {
	result := natural{1}
	for i := bits.Len(uint(n)) - 1; i >= 0; i-- {
		result = multiply(result, result)
		if n>>i&1 == 1 {
			result = multiply(result, x)
		}
	}
	return result
}

// root returns the greatest number whose power n, from 1 on, is at most x.
func root(x natural, n int) natural {
	if n == 1 {
		return x
	}
	var found natural
	belongs := func(place int) bool {
		// If all bits below the place are 0, so are n times as many of the power, and those of x there do not count.
		return compare(power(multiplyAdd(found, 2, 1), n), shift(x, n*place)) <= 0
	}
	for place := size(x) / n; place >= 0; place-- {
		bit := uint32(0)
		if belongs(place) {
			bit = 1
		}
		found = multiplyAdd(found, 2, bit)
	}
	return found
}

// size returns the number of bits of x.
func size(x natural) int {
	if len(x) == 0 {
		return 0
	}
	return 32*(len(x)-1) + bits.Len32(x[len(x)-1])
}

// shift returns x without its last bits; count is at most their number.
func shift(x natural, count int) natural {
	rest, _ := divideSmall(x[count/32:], uint32(1)<<(count%32))
	return rest
}
