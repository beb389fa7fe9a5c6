package subset

import (
	"bytes"
	"math/bits"
	"slices"

	"groove/api"
	"groove/graph"
)

// Count returns the number of words of length n of g.
func Count(g api.Graph, n int) (api.Int, api.Errno) {
	if graph.Check(g) != api.OK {
		return api.Int{}, api.ErrArgument
	}
	if n < 0 || n > api.MaxPower {
		return api.Int{}, api.ErrRange
	}
	h, _, e := Build(g)
	if e != api.OK || h.States == 0 {
		return api.Int{}, e
	}
	return pathsFrom(h, n)[0].value(), api.OK
}

// pathsFrom returns, for each state of a deterministic graph, the number of paths of n edges from it: as many as there are lists of their labels.
func pathsFrom(h api.Graph, n int) []natural {
	numbers := slices.Repeat([]natural{{1}}, h.States)
	for range n {
		longer := make([]natural, h.States)
		for _, edge := range h.Edges {
			longer[edge.From] = longer[edge.From].plus(numbers[edge.To])
		}
		numbers = longer
	}
	return numbers
}

// natural is a number that is not negative: its digits to the base 2^64, the least significant one first. (This layer knows the graphs of layer 9 only.)
type natural []uint64

// plus returns a + b, in the memory of a if there is room.
func (a natural) plus(b natural) natural {
	for len(a) < len(b) {
		a = append(a, 0)
	}
	var carry uint64
	for i, digit := range b {
		a[i], carry = bits.Add64(a[i], digit, carry)
	}
	for i := len(b); carry > 0; i++ {
		if i == len(a) {
			a = append(a, 0)
		}
		a[i], carry = bits.Add64(a[i], 0, carry)
	}
	return a
}

// value returns the canonical integer with the value of a.
func (a natural) value() api.Int {
	var digits []byte
	for _, digit := range slices.Backward(a) {
		for shift := 56; shift >= 0; shift -= 8 {
			digits = append(digits, byte(digit>>shift))
		}
	}
	return api.Int{Mag: string(bytes.TrimLeft(digits, "\x00"))}
}
