// Package samples is no layer, and no layer uses it: it makes graphs and strings for the tests of several layers.
package samples

import (
	"slices"

	"groove/api"
	"groove/graph"
)

// Of returns the graph with some labels and states, and the edges whose numbers follow each other: from, label, to.
func Of(labels, states int, numbers ...int) api.Graph {
	var edges []api.Edge
	for i := 0; i < len(numbers); i += 3 {
		edges = append(edges, api.Edge{From: numbers[i], Label: numbers[i+1], To: numbers[i+2]})
	}
	return Made(labels, states, edges)
}

// Made returns the graph with some labels, states and edges, which may stand in any order. It panics if there is none: then a test is wrong.
func Made(labels, states int, edges []api.Edge) api.Graph {
	g, e := graph.Make(labels, states, edges)
	if e != api.OK {
		panic(e)
	}
	return g
}

// Even returns the even shift: between two labels 1 there is an even number of labels 0.
func Even() api.Graph { return Of(2, 2, 0, 0, 1, 0, 1, 0, 1, 0, 0) }

// Golden returns the graph whose words have no two labels 1 in a row.
func Golden() api.Graph { return Of(2, 2, 0, 0, 0, 0, 1, 1, 1, 0, 0) }

// Stairs returns the graph whose words have no label 0 behind a label 1: there are n + 1 of n labels.
func Stairs() api.Graph { return Of(2, 2, 0, 0, 0, 0, 1, 1, 1, 1, 1) }

// Whole returns the graph with one state in which all paths with some labels go on.
func Whole(labels int) api.Graph { return With(Of(labels, 1), 0, labels, 0) }

// With returns g with the edges from some states to themselves, with all labels from one on that are less than another one.
func With(g api.Graph, from, to int, states ...int) api.Graph {
	edges := slices.Clone(g.Edges)
	for label := from; label < to; label++ {
		for _, s := range states {
			edges = append(edges, api.Edge{From: s, Label: label, To: s})
		}
	}
	return Made(g.Labels, g.States, edges)
}

// Line returns the path through n states with the label 0, and further edges.
func Line(labels, n int, numbers ...int) api.Graph {
	for s := range n - 1 {
		numbers = append(numbers, s, 0, s+1)
	}
	return Of(labels, n, numbers...)
}

// Cycles returns cycles of some lengths beside each other, with the label 0, the states of each behind those of the one before.
func Cycles(lengths ...int) api.Graph {
	var numbers []int
	first := 0
	for _, n := range lengths {
		for s := range n {
			numbers = append(numbers, first+s, 0, first+(s+1)%n)
		}
		first += n
	}
	return Of(1, first, numbers...)
}

// Grid returns the graph with some states, in which each label leads from each of them to the next one, and from the last one to the first one.
func Grid(labels, states int) api.Graph {
	var numbers []int
	for s := range states {
		for label := range labels {
			numbers = append(numbers, s, label, (s+1)%states)
		}
	}
	return Of(labels, states, numbers...)
}

// Seven returns a graph whose sets are all 7 sets of its 3 states, with some labels that lead on from all of them, and some from the 4 sets with the state 0 only; the first 3 labels lead on from 6 sets, and so do some others.
func Seven(everywhere, some, few int) api.Graph {
	labels := 3 + everywhere + some + few
	g := With(Of(labels, 3), 0, 1, 0, 1)
	g = With(With(g, 1, 2, 0, 2), 2, 3, 1, 2)
	g = With(g, 3, 3+everywhere, 0, 1, 2)
	g = With(g, 3+everywhere, 3+everywhere+some, 0, 1)
	return With(g, labels-few, labels, 0)
}

// Beside returns the graph that consists of two graphs with equally many labels, the states of the second one behind those of the first one.
func Beside(a, b api.Graph) api.Graph {
	edges := slices.Clone(a.Edges)
	for _, edge := range b.Edges {
		edges = append(edges, api.Edge{From: edge.From + a.States, Label: edge.Label, To: edge.To + a.States})
	}
	return Made(a.Labels, a.States+b.States, edges)
}

// Subgraphs returns all graphs with some labels and states.
func Subgraphs(labels, states int) []api.Graph {
	var list []api.Graph
	for bits := range 1 << (labels * states * states) {
		g := api.Graph{Labels: labels, States: states}
		for i := range labels * states * states {
			if bits>>i&1 == 1 {
				g.Edges = append(g.Edges, api.Edge{From: i / (labels * states), Label: i / states % labels, To: i % states})
			}
		}
		list = append(list, g)
	}
	return list
}
