package samples

import (
	"slices"

	"groove/api"
)

// All returns the set of all states of g.
func All(g api.Graph) []int {
	var set []int
	for s := range g.States {
		set = append(set, s)
	}
	return set
}

// Step returns the states to which edges with a label lead from states of a set, in ascending order, by the definition.
func Step(g api.Graph, set []int, label int) []int {
	var to []int
	for _, edge := range g.Edges {
		if edge.Label == label && slices.Contains(set, edge.From) {
			to = append(to, edge.To)
		}
	}
	slices.Sort(to)
	return slices.Compact(to)
}

// Ends returns the states in which the paths with some labels end that begin in a state of a set, in ascending order.
func Ends(g api.Graph, set, labels []int) []int {
	for _, label := range labels {
		set = Step(g, set, label)
	}
	return set
}

// Lists returns all lists of n labels, of which there are some, lexicographically.
func Lists(labels, n int) [][]int {
	list := [][]int{nil}
	for range n {
		var longer [][]int
		for _, shorter := range list {
			for label := range labels {
				longer = append(longer, append(slices.Clone(shorter), label))
			}
		}
		list = longer
	}
	return list
}

// Key returns a string that belongs to this list of small numbers only.
func Key(list []int) string {
	var text []byte
	for _, n := range list {
		text = append(text, byte(n))
	}
	return string(text)
}
