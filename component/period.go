package component

import "groove/api"

// Period returns the period of an irreducible graph.
func Period(g api.Graph) (int, api.Errno) {
	period, _, e := measure(g)
	return period, e
}

// Classes returns the class of each state of an irreducible graph.
func Classes(g api.Graph) ([]int, api.Errno) {
	period, classes, e := measure(g)
	for s := range classes {
		classes[s] %= period
	}
	return classes, e
}

// measure returns the period of an irreducible graph, and for each state the length of a path to it from the state 0.
func measure(g api.Graph) (int, []int, api.Errno) {
	is, e := Irreducible(g)
	if e != api.OK {
		return 0, nil, e
	}
	if !is {
		return 0, nil, api.ErrKind
	}
	length := lengths(targets(g), 0)
	// An edge to a state ends a path whose length differs by a multiple of the period from the known one, since a path back closes both of them; and along a closed path these differences add up to its length.
	period := 0
	for _, edge := range g.Edges {
		period = divisor(period, length[edge.From]+1-length[edge.To])
	}
	return period, length, api.OK
}

// divisor returns the greatest common divisor of two numbers, 0 if both are 0.
func divisor(a, b int) int {
	for b != 0 {
		a, b = b, a%b
	}
	return max(a, -a)
}
