package language

import (
	"math/bits"
	"strings"

	"groove/api"
)

// states is a set of states: that of the bits that are 1, of which there are as many as a graph can have states.
type states uint64

// only returns the set of some states.
func only(list ...int) states {
	var set states
	for _, s := range list {
		set |= 1 << s
	}
	return set
}

// every returns the set of all states of a valid graph.
func every(g api.Graph) states {
	return 1<<g.States - 1
}

// has returns whether a state belongs to a set.
func (set states) has(s int) bool {
	return set>>s&1 == 1
}

// members returns the states of a set, in ascending order.
func (set states) members() []int {
	var list []int
	for ; set != 0; set &= set - 1 {
		list = append(list, bits.TrailingZeros64(uint64(set)))
	}
	return list
}

// moves are, for each label and each state, the states to which edges with this label lead from it.
type moves [][]states

// movesOf returns the moves of a valid graph.
func movesOf(g api.Graph) moves {
	m := make(moves, g.Labels)
	for label := range m {
		m[label] = make([]states, g.States)
	}
	for _, edge := range g.Edges {
		m[edge.Label][edge.From] |= only(edge.To)
	}
	return m
}

// step returns the states to which edges with a label lead from states of a set.
func (m moves) step(set states, label int) states {
	var ends states
	for ; set != 0; set &= set - 1 {
		ends |= m[label][bits.TrailingZeros64(uint64(set))]
	}
	return ends
}

// read returns the states in which the paths labelled w that begin in a state of a set end.
func (m moves) read(set states, w string) states {
	for i := range len(w) {
		set = m.step(set, labelOf(w[i]))
	}
	return set
}

// follow calls a function for each letter with which edges leave states of a set, in their order, with the states to which these edges lead.
func (m moves) follow(set states, do func(letter byte, ends states)) {
	for label := range m {
		if ends := m.step(set, label); ends != 0 {
			do(api.Letters[label], ends)
		}
	}
}

// labelOf returns the label that is read as a letter.
func labelOf(letter byte) int {
	return strings.IndexByte(api.Letters, letter)
}
