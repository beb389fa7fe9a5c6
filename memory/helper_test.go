package memory_test

import (
	"math/rand"
	"testing"

	"groove/api"
	"groove/memory"
	"groove/samples"
)

// small returns small graphs.
func small(seed int64) []api.Graph { return samples.Small(rand.New(rand.NewSource(seed))) }

// large returns graphs with many states, labels and edges.
func large(seed int64) []api.Graph { return samples.Large(rand.New(rand.NewSource(seed))) }

// tiny returns all graphs with at most two states and two labels.
func tiny() []api.Graph {
	var list []api.Graph
	for states := range 3 {
		for labels := 1; labels <= 2; labels++ {
			list = append(list, samples.Subgraphs(labels, states)...)
		}
	}
	return list
}

// chain returns a deterministic graph with 64 states and n labels, each of which leads from one pair of states to the next one, and from no other states. It also returns the pairs, of which there is one more than labels.
func chain(n int) (api.Graph, [][2]int) {
	var edges []api.Edge
	var list [][2]int
	for difference := 1; len(list) <= n; difference++ {
		for s := 0; s+difference < api.MaxState; s++ {
			list = append(list, [2]int{s, s + difference})
		}
	}
	list = list[:n+1]
	for label := range n {
		for i := range 2 {
			edges = append(edges, api.Edge{From: list[label][i], Label: label, To: list[label+1][i]})
		}
	}
	return samples.Made(n, api.MaxState, edges), list
}

// reversed returns the graph whose edges are turned around.
func reversed(g api.Graph) api.Graph {
	var edges []api.Edge
	for _, edge := range g.Edges {
		edges = append(edges, api.Edge{From: edge.To, Label: edge.Label, To: edge.From})
	}
	return samples.Made(g.Labels, g.States, edges)
}

// paths calls a function for each path of n edges through g, with the indices of its edges and its labels. It must keep neither.
func paths(g api.Graph, n int, do func(path, labels []int)) {
	path, labels := make([]int, 0, n), make([]int, 0, n)
	var goOn func()
	goOn = func() {
		if len(path) == n {
			do(path, labels)
			return
		}
		for i, edge := range g.Edges {
			if len(path) == 0 || g.Edges[path[len(path)-1]].To == edge.From {
				path, labels = append(path, i), append(labels, edge.Label)
				goOn()
				path, labels = path[:len(path)-1], labels[:len(labels)-1]
			}
		}
	}
	goOn()
}

// agree returns whether all paths of n edges that have equal keys, which are made by a function of the path and its labels, have equal values of another function.
func agree(g api.Graph, n int, key func(path, labels []int) string, value func(path []int) int) bool {
	values := map[string]int{}
	is := true
	paths(g, n, func(path, labels []int) {
		k, v := key(path, labels), value(path)
		if before, there := values[k]; there && before != v {
			is = false
		}
		values[k] = v
	})
	return is
}

// ofLabels returns the key of the labels of a path.
func ofLabels(_, labels []int) string { return samples.Key(labels) }

// isMemory returns whether two paths of m edges with equal labels end in the same state, by the definition. The paths without edges are the states.
func isMemory(g api.Graph, m int) bool {
	if m == 0 {
		return g.States < 2
	}
	return agree(g, m, ofLabels, func(path []int) int { return g.Edges[path[m-1]].To })
}

// isAnticipation returns whether two paths of a + 1 edges with equal labels that begin in the same state begin with the same edge, by the definition.
func isAnticipation(g api.Graph, a int) bool {
	key := func(path, labels []int) string {
		return samples.Key([]int{g.Edges[path[0]].From}) + samples.Key(labels)
	}
	return agree(g, a+1, key, func(path []int) int { return path[0] })
}

// isLocal returns whether two paths of m + 1 + a edges with equal labels have the same edge at the place m, by the definition.
func isLocal(g api.Graph, m, a int) bool {
	return agree(g, m+1+a, ofLabels, func(path []int) int { return path[m] })
}

// unbounded stands for the number of edges of paths that can have any number of them.
const unbounded = 1 << 30

// depths returns a function that tells the greatest number of edges of two paths through g with equal labels that end in two states. What has been found out is kept.
func depths(g api.Graph) func(s, t int) int {
	var reaching [api.MaxState][]api.Edge
	for _, edge := range g.Edges {
		reaching[edge.To] = append(reaching[edge.To], edge)
	}
	known := map[[2]int]int{}
	var depth func(s, t int) int
	depth = func(s, t int) int {
		p := [2]int{s, t}
		if n, is := known[p]; is {
			return n
		}
		// Whatever asks for this pair again before it is known is on a cycle.
		known[p] = unbounded
		n := 0
		for _, one := range reaching[s] {
			for _, other := range reaching[t] {
				if one.Label == other.Label && n < unbounded {
					n = max(n, min(unbounded, depth(one.From, other.From)+1))
				}
			}
		}
		known[p] = n
		return n
	}
	return depth
}

// memoryBy returns the memory that the depths of pairs lead to, and whether there is one.
func memoryBy(g api.Graph) (int, bool) {
	depth := depths(g)
	m := 0
	for s := range g.States {
		for t := range s {
			m = max(m, depth(s, t)+1)
		}
	}
	return bounded(m)
}

// anticipationBy returns the anticipation that the depths of pairs of the reversed graph lead to, and whether there is one.
func anticipationBy(g api.Graph) (int, bool) {
	depth := depths(reversed(g))
	a := 0
	for i, one := range g.Edges {
		for _, other := range g.Edges[:i] {
			if one.From == other.From && one.Label == other.Label {
				a = max(a, depth(one.To, other.To)+1)
			}
		}
	}
	return bounded(a)
}

// bounded returns a number, and whether it is one; otherwise 0.
func bounded(n int) (int, bool) {
	if n >= unbounded {
		return 0, false
	}
	return n, true
}

// localBy returns a function that tells whether g is local for two numbers, by the depths of pairs of it and of the reversed graph.
func localBy(g api.Graph) func(m, a int) bool {
	before, behind := depths(g), depths(reversed(g))
	return func(m, a int) bool {
		for i, one := range g.Edges {
			for _, other := range g.Edges[:i] {
				if one.Label == other.Label && before(one.From, other.From) >= m && behind(one.To, other.To) >= a {
					return false
				}
			}
		}
		return true
	}
}

// memoryOf returns the memory of a valid graph, and 0 if there is none.
func memoryOf(t *testing.T, g api.Graph) (int, bool) {
	t.Helper()
	m, is, e := memory.Memory(g)
	if e != api.OK || !is && m != 0 || m < 0 {
		t.Fatalf("P15.1: Memory %v: %d, %t, %d", g, m, is, e)
	}
	return m, is
}

// anticipationOf returns the anticipation of a valid graph, and 0 if there is none.
func anticipationOf(t *testing.T, g api.Graph) (int, bool) {
	t.Helper()
	a, is, e := memory.Anticipation(g)
	if e != api.OK || !is && a != 0 || a < 0 {
		t.Fatalf("P15.1: Anticipation %v: %d, %t, %d", g, a, is, e)
	}
	return a, is
}

// localOf returns whether a valid graph is local for two numbers that are allowed.
func localOf(t *testing.T, g api.Graph, m, a int) bool {
	t.Helper()
	is, e := memory.Local(g, m, a)
	if e != api.OK {
		t.Fatalf("P15.1: Local %v, %d, %d: %t, %d", g, m, a, is, e)
	}
	return is
}

// witnessOf returns the witness of a deterministic graph, and no edges if there is none.
func witnessOf(t *testing.T, g api.Graph) ([]int, []int, bool) {
	t.Helper()
	first, second, is, e := memory.Witness(g)
	if e != api.OK || len(first) != len(second) || is != (len(first) > 0) {
		t.Fatalf("P15.1: Witness %v: %v, %v, %t, %d", g, first, second, is, e)
	}
	return first, second, is
}

// typeOf returns the type of an irreducible graph with not too many sets, and 0 if there is none.
func typeOf(t *testing.T, g api.Graph) (int, bool) {
	t.Helper()
	k, is, e := memory.Type(g)
	if e != api.OK || !is && k != 0 || k < 0 {
		t.Fatalf("P15.1: Type %v: %d, %t, %d", g, k, is, e)
	}
	return k, is
}

// followOf returns the states in which paths with some labels end, for which there is no error.
func followOf(t *testing.T, g api.Graph, labels []int) []int {
	t.Helper()
	set, e := memory.Follow(g, labels)
	if e != api.OK {
		t.Fatalf("P15.1: Follow %v, %v: %v, %d", g, labels, set, e)
	}
	return set
}
