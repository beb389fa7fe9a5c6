// Package states is no layer: it has what several layers need of sets of states of graphs.
package states

import (
	"math/bits"

	"groove/api"
)

// Set is a set of states: that of the bits that are 1, of which there are as many as a graph can have states.
type Set uint64

// Of returns the set of some states.
func Of(list ...int) Set {
	var set Set
	for _, s := range list {
		set |= 1 << s
	}
	return set
}

// Every returns the set of all states of a valid graph.
func Every(g api.Graph) Set {
	return 1<<g.States - 1
}

// Has returns whether a state belongs to a set.
func (set Set) Has(s int) bool {
	return set>>s&1 == 1
}

// Members returns the states of a set, in ascending order.
func (set Set) Members() []int {
	var list []int
	for ; set != 0; set &= set - 1 {
		list = append(list, bits.TrailingZeros64(uint64(set)))
	}
	return list
}

// Moves are, for each label and each state, the states to which edges with this label lead from it.
type Moves [][]Set

// MovesOf returns the moves of a valid graph.
func MovesOf(g api.Graph) Moves {
	m := make(Moves, g.Labels)
	for label := range m {
		m[label] = make([]Set, g.States)
	}
	for _, edge := range g.Edges {
		m[edge.Label][edge.From] |= Of(edge.To)
	}
	return m
}

// Step returns the states to which edges with a label lead from states of a set.
func (m Moves) Step(set Set, label int) Set {
	var ends Set
	for ; set != 0; set &= set - 1 {
		ends |= m[label][bits.TrailingZeros64(uint64(set))]
	}
	return ends
}

// Follow calls a function for each label with which edges leave states of a set, in ascending order, with the states to which these edges lead.
func (m Moves) Follow(set Set, do func(label int, ends Set)) {
	for label := range m {
		if ends := m.Step(set, label); ends != 0 {
			do(label, ends)
		}
	}
}
