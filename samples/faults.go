package samples

import (
	"math"

	"groove/api"
)

// NoNumbers returns numbers that are too small or too great for everything.
func NoNumbers() []int {
	return []int{-1, -2, -64, math.MinInt, math.MinInt + 1, 1 << 31, 1 << 32, 1<<32 + 1, math.MaxInt - 1, math.MaxInt}
}

// Faults returns graphs that are not valid: wrong labels, states and edges, wrong orders, and too many edges.
func Faults() []api.Graph {
	long := Grid(16, 64)
	long.Edges = append(long.Edges, api.Edge{From: 63, Label: 15, To: 63})
	list := []api.Graph{
		{}, long, {Labels: 1, States: 65}, {Labels: 1, States: 1, Edges: make([]api.Edge, 2)}, {Labels: 1, States: 0, Edges: make([]api.Edge, 1)}, {Labels: 1, States: 1, Edges: make([]api.Edge, api.MaxEdge+1)},
		{Labels: 1, States: 2, Edges: []api.Edge{{From: 1}, {To: 1}}}, {Labels: 17, States: 2, Edges: []api.Edge{{From: 1}, {To: 1}}}, {Labels: 2, States: 2, Edges: []api.Edge{{Label: 1}, {To: 1}}},
		{Labels: 2, States: 2, Edges: []api.Edge{{To: 1}, {To: 0}, {From: 1}}}, {Labels: 2, States: 2, Edges: []api.Edge{{Label: 1, To: 1}, {To: 1}, {From: 1}}}, {Labels: 256, States: 2, Edges: []api.Edge{{Label: 256}}},
	}
	for _, n := range append(NoNumbers(), 257, 0) {
		list = append(list, api.Graph{Labels: n}, api.Graph{Labels: n, States: 1, Edges: []api.Edge{{}}})
	}
	for _, n := range append(NoNumbers(), 2) {
		list = append(list, api.Graph{Labels: 2, States: 2, Edges: []api.Edge{{From: n}}}, api.Graph{Labels: 2, States: 2, Edges: []api.Edge{{Label: n}}}, api.Graph{Labels: 2, States: 2, Edges: []api.Edge{{}, {From: 1, To: n}}})
	}
	for _, n := range append(NoNumbers(), 65) {
		list = append(list, api.Graph{Labels: 2, States: n}, api.Graph{Labels: 2, States: n, Edges: []api.Edge{{}}})
	}
	return list
}
