package sturm

import (
	"groove/api"
	"groove/integer"
	"groove/rational"
)

// count returns the number of roots in an interval whose Low is at most its High, of the polynomial with a Sturm chain.
func count(list [][]api.Int, i api.Interval) int {
	return Changes(list, i.Low) - Changes(list, i.High)
}

// bound returns the bound of p, which is not 0.
func bound(p []api.Int) api.Int {
	degree := len(p) - 1
	var greatest api.Int
	for _, c := range p[:degree] {
		if size := absolute(c); integer.Compare(size, greatest) > 0 {
			greatest = size
		}
	}
	// An integer is greater than a number exactly if it is greater than the floor of this number.
	floor, _, _ := integer.Div(greatest, absolute(p[degree]))
	return powerOfTwo(integer.Bits(integer.Add(floor, integer.Of(1))))
}

// absolute returns the absolute value of a.
func absolute(a api.Int) api.Int {
	if isNegative(a) {
		return integer.Neg(a)
	}
	return a
}

// powerOfTwo returns 2 to the power n, from 0 on. Power of layer 1 does not take all exponents that bounds have.
func powerOfTwo(n int) api.Int {
	digits := make([]byte, n/8+1)
	digits[0] = 1 << (n % 8)
	return api.Int{Mag: string(digits)}
}

// bounds returns the interval from the opposite of the bound of p, which is not 0, to the bound.
func bounds(p []api.Int) api.Interval {
	high := rational.Of(bound(p))
	return api.Interval{Low: rational.Neg(high), High: high}
}

// part is the interval from low / den to high / den, where den is greater than 0. These need not be in lowest terms, so that halving needs no common divisors.
type part struct{ low, high, den api.Int }

// partOf returns an interval of canonical numbers as a part, with the least den that is possible.
func partOf(i api.Interval) part {
	common := integer.Gcd(i.Low.Den, i.High.Den)
	ofLow, _, _ := integer.Div(i.Low.Den, common)
	ofHigh, _, _ := integer.Div(i.High.Den, common)
	return part{low: integer.Mul(i.Low.Num, ofHigh), high: integer.Mul(i.High.Num, ofLow), den: integer.Mul(i.Low.Den, ofHigh)}
}

// interval returns the part as an interval of canonical numbers.
func (x part) interval() api.Interval {
	low, _ := rational.New(x.low, x.den)
	high, _ := rational.New(x.high, x.den)
	return api.Interval{Low: low, High: high}
}

// halves returns the lower and the upper half.
func (x part) halves() (part, part) {
	two := integer.Of(2)
	sum := integer.Add(x.low, x.high)
	middle, rest, _ := integer.Div(sum, two)
	if integer.Bits(rest) > 0 {
		x = part{low: integer.Mul(x.low, two), high: integer.Mul(x.high, two), den: integer.Mul(x.den, two)}
		middle = sum
	}
	return part{low: x.low, high: middle, den: x.den}, part{low: middle, high: x.high, den: x.den}
}

// isolate returns the parts of an interval with one root each that halving leads to, of the polynomial with a Sturm chain.
func isolate(list [][]api.Int, i api.Interval) []api.Interval {
	var found []api.Interval
	// The changes at the ends are passed on, since those of a long chain take time.
	var separate func(x part, atLow, atHigh int)
	separate = func(x part, atLow, atHigh int) {
		switch atLow - atHigh {
		case 0:
		case 1:
			found = append(found, x.interval())
		default:
			lower, upper := x.halves()
			atMiddle := changes(list, lower.high, lower.den)
			separate(lower, atLow, atMiddle)
			separate(upper, atMiddle, atHigh)
		}
	}
	separate(partOf(i), Changes(list, i.Low), Changes(list, i.High))
	return found
}

// halvings returns how often an interval must be halved until it is not wider than demanded.
func halvings(i api.Interval, width api.Rat) int {
	// The least n whose power 2^n is at least a positive number is the one whose power is greater than the greatest integer below this number. Floor, of the opposite number, rounds up.
	opposite, _ := rational.Quo(rational.Sub(i.Low, i.High), width)
	below := integer.Sub(integer.Neg(rational.Floor(opposite)), integer.Of(1))
	return integer.Bits(below)
}

// refine returns what is left of an interval when the half with the root has taken its place some times. The interval has one root of p, which has no multiple roots.
func refine(p []api.Int, i api.Interval, times int) api.Interval {
	x := partOf(i)
	// Above its root, up to High, p has the same sign everywhere; where the root is High, this is 0, and p is not 0 in any middle.
	above := sign(p, x.high, x.den)
	for range times {
		lower, upper := x.halves()
		x = upper
		if middle := sign(p, lower.high, lower.den); middle == 0 || middle == above {
			x = lower
		}
	}
	return x.interval()
}
