package component_test

import (
	"math"
	"math/rand"
	"slices"
	"testing"

	"groove/api"
	"groove/component"
	"groove/graph"
	"groove/samples"
)

// of returns the graph with some states and the edges between the pairs of states that follow each other, all with the label 0.
func of(states int, pairs ...int) api.Graph {
	var edges []api.Edge
	for i := 0; i < len(pairs); i += 2 {
		edges = append(edges, api.Edge{From: pairs[i], To: pairs[i+1]})
	}
	return samples.Made(1, states, edges)
}

// chain returns the path through n states in which each state leads to the next one, with further edges.
func chain(n int, pairs ...int) api.Graph {
	for s := range n - 1 {
		pairs = append(pairs, s, s+1)
	}
	return of(n, pairs...)
}

// cycle returns the cycle through n states in which each state leads to the next one, with further edges.
func cycle(n int, pairs ...int) api.Graph {
	return chain(n, append(pairs, n-1, 0)...)
}

// back returns the path through n states in which each state leads to the one before, with further edges.
func back(n int, pairs ...int) api.Graph {
	for s := range n - 1 {
		pairs = append(pairs, s+1, s)
	}
	return of(n, pairs...)
}

// petals returns a graph whose only cycles, of some lengths, meet in the state 0 alone.
func petals(lengths ...int) api.Graph {
	states := 1
	var pairs []int
	for _, length := range lengths {
		last := 0
		for range length - 1 {
			pairs = append(pairs, last, states)
			last = states
			states++
		}
		pairs = append(pairs, last, 0)
	}
	return of(states, pairs...)
}

// dense returns a graph with 64 states and 1024 edges, 16 from each state s to the states s + first, s + first + step, and so on.
func dense(first, step int) api.Graph {
	var edges []api.Edge
	for i := range api.MaxEdge {
		edges = append(edges, api.Edge{From: i / 16, Label: i % 3, To: (i/16 + first + i%16*step) % 64})
	}
	return samples.Made(3, api.MaxState, edges)
}

// apart returns a graph with 64 states and 1024 edges in which the states of each block of 16 lead to all states of the block.
func apart() api.Graph {
	var edges []api.Edge
	for i := range api.MaxEdge {
		edges = append(edges, api.Edge{From: i / 16, To: i/256*16 + i%16})
	}
	return samples.Made(1, api.MaxState, edges)
}

// everyLabel returns a graph in which all labels lead from 0 to 1, and from 1 to 0.
func everyLabel() api.Graph {
	g := api.Graph{Labels: api.MaxLabel, States: 2}
	for i := range 2 * api.MaxLabel {
		g.Edges = append(g.Edges, api.Edge{From: i / 256, Label: i % 256, To: 1 - i/256})
	}
	return g
}

// periodic returns a graph in which edges lead only from states of each of some classes to those of the next one, in which the states stand in any order.
func periodic(r *rand.Rand, classes, states, edges int) api.Graph {
	class := make([]int, states)
	for s := range class {
		class[s] = r.Intn(classes)
	}
	var list []api.Edge
	for range edges {
		edge := api.Edge{From: r.Intn(states), Label: r.Intn(2), To: r.Intn(states)}
		if class[edge.To] == (class[edge.From]+1)%classes {
			list = append(list, edge)
		}
	}
	return samples.Made(2, states, list)
}

// graphs returns valid graphs of all kinds: known ones, all small ones, and random ones, with few and many edges, and with several periods.
func graphs(seed int64) []api.Graph {
	r := rand.New(rand.NewSource(seed))
	list := slices.Concat(samples.Subgraphs(1, 0), samples.Subgraphs(1, 1), samples.Subgraphs(1, 2), samples.Subgraphs(1, 3))
	for _, k := range known() {
		list = append(list, k.g)
	}
	for i := range 300 {
		states := 1 + r.Intn(12)
		list = append(list, samples.Random(r, 1+r.Intn(3), states, r.Intn(1+2*states)), samples.Random(r, 1, 4, r.Intn(13)), periodic(r, 1+r.Intn(6), states, r.Intn(1+16*states)))
		if i%10 == 0 {
			list = append(list, samples.Random(r, 1, 64, 60+r.Intn(60)), samples.Random(r, 2, 64, 80+r.Intn(200)), samples.Random(r, 256, 64, 1024), periodic(r, 2+r.Intn(15), 64, 1024), periodic(r, 2+r.Intn(4), 64, 600+r.Intn(600)))
		}
	}
	return list
}

// irreducible returns the parts of sample graphs on their cyclic components, by the definition.
func irreducible(t *testing.T, seed int64) []api.Graph {
	t.Helper()
	var list []api.Graph
	several, less := 0, 0
	for _, g := range graphs(seed) {
		for _, set := range partsOf(g) {
			if hasEdge(g, set) {
				p := keepOf(t, g, set)
				list = append(list, p)
				if lasts := ofTable(p); periodOf(lasts) > 1 {
					several++
					if periodOf(lasts) < p.States {
						less++
					}
				}
			}
		}
	}
	if several < 200 || less < 100 {
		t.Errorf("%d parts with a period greater than 1, %d of them with fewer classes than states", several, less)
	}
	return list
}

// reversed returns the graph with the edges of g turned around.
func reversed(t *testing.T, g api.Graph) api.Graph {
	t.Helper()
	r, e := graph.Reverse(g)
	if e != api.OK {
		t.Fatalf("Reverse %v: %d", g, e)
	}
	return r
}

// keepOf returns the part of g on a set of states.
func keepOf(t *testing.T, g api.Graph, set []int) api.Graph {
	t.Helper()
	p, e := graph.Keep(g, set)
	if e != api.OK {
		t.Fatalf("Keep %v, %v: %d", g, set, e)
	}
	return p
}

// table tells which states lead to which ones: the bit t of the number at s is 1 if s leads to t.
type table []uint64

// ofTable returns the table of the paths of one edge.
func ofTable(g api.Graph) table {
	a := make(table, g.States)
	for _, edge := range g.Edges {
		a[edge.From] |= 1 << edge.To
	}
	return a
}

// ofNone returns the table of the paths of no edge.
func ofNone(states int) table {
	a := make(table, states)
	for s := range a {
		a[s] = 1 << s
	}
	return a
}

// has returns whether s leads to t.
func (a table) has(s, t int) bool {
	return a[s]>>t&1 == 1
}

// times returns the table of the paths that consist of one of a and one of b.
func (a table) times(b table) table {
	c := make(table, len(a))
	for s := range a {
		for t := range b {
			if a.has(s, t) {
				c[s] |= b[t]
			}
		}
	}
	return c
}

// power returns the table of the paths that consist of n paths of a.
func (a table) power(n int) table {
	result := ofNone(len(a))
	for ; n > 0; n /= 2 {
		if n%2 == 1 {
			result = result.times(a)
		}
		a = a.times(a)
	}
	return result
}

// reaches returns the table of all paths: each state that is reached is reached by fewer than 64 edges.
func reaches(g api.Graph) table {
	a := ofTable(g)
	for s := range a {
		a[s] |= 1 << s
	}
	return a.power(64)
}

// partsOf returns the components, by the definition.
func partsOf(g api.Graph) [][]int {
	a := reaches(g)
	var list [][]int
	for s := range g.States {
		var set []int
		for t := range g.States {
			if a.has(s, t) && a.has(t, s) {
				set = append(set, t)
			}
		}
		if set[0] == s {
			list = append(list, set)
		}
	}
	return list
}

// hasEdge returns whether an edge leads from a state of a set to one of it.
func hasEdge(g api.Graph, set []int) bool {
	for _, edge := range g.Edges {
		if slices.Contains(set, edge.From) && slices.Contains(set, edge.To) {
			return true
		}
	}
	return false
}

// isLeft returns whether an edge leads from a state of a set to one that does not belong to it.
func isLeft(g api.Graph, set []int) bool {
	for _, edge := range g.Edges {
		if slices.Contains(set, edge.From) && !slices.Contains(set, edge.To) {
			return true
		}
	}
	return false
}

// filter returns the sets for which a function returns true.
func filter(list [][]int, is func(set []int) bool) [][]int {
	var kept [][]int
	for _, set := range list {
		if is(set) {
			kept = append(kept, set)
		}
	}
	return kept
}

// periodOf returns the greatest common divisor of the lengths of closed paths, by the definition: each closed path consists of such with at most as many edges as there are states.
func periodOf(a table) int {
	period := 0
	lasts := ofNone(len(a))
	for n := 1; n <= len(a); n++ {
		lasts = lasts.times(a)
		for s := range a {
			if lasts.has(s, s) {
				period = common(period, n)
				break
			}
		}
	}
	return period
}

// common returns the greatest number that divides two numbers, the second of which is not 0.
func common(a, b int) int {
	for d := b; ; d-- {
		if a%d == 0 && b%d == 0 {
			return d
		}
	}
}

// isSame returns whether two lists of sets are equal.
func isSame(a, b [][]int) bool {
	return slices.EqualFunc(a, b, slices.Equal)
}

// answer returns what a function says of a graph for which it has no error.
func answer[T any](t *testing.T, name string, f func(g api.Graph) (T, api.Errno), g api.Graph) T {
	t.Helper()
	result, e := f(g)
	if e != api.OK {
		t.Fatalf("%s %v: %d", name, g, e)
	}
	return result
}

// componentsOf returns the components of a valid graph.
func componentsOf(t *testing.T, g api.Graph) [][]int {
	t.Helper()
	return answer(t, "P10.2: Of", component.Of, g)
}

// cyclicOf returns the cyclic components of a valid graph.
func cyclicOf(t *testing.T, g api.Graph) [][]int {
	t.Helper()
	return answer(t, "P10.5: Cyclic", component.Cyclic, g)
}

// sinksOf returns the sinks of a valid graph.
func sinksOf(t *testing.T, g api.Graph) [][]int {
	t.Helper()
	return answer(t, "P10.4: Sinks", component.Sinks, g)
}

// isIrreducible returns whether a valid graph is irreducible.
func isIrreducible(t *testing.T, g api.Graph) bool {
	t.Helper()
	return answer(t, "P10.5: Irreducible", component.Irreducible, g)
}

// measureOf returns the period and the classes of an irreducible graph.
func measureOf(t *testing.T, g api.Graph) (int, []int) {
	t.Helper()
	return answer(t, "P10.6: Period", component.Period, g), answer(t, "P10.7: Classes", component.Classes, g)
}

// reachOf returns what is reached from a state of a valid graph.
func reachOf(t *testing.T, g api.Graph, s int) []int {
	t.Helper()
	return answer(t, "P10.3: Reach", func(g api.Graph) ([]int, api.Errno) { return component.Reach(g, s) }, g)
}

// noStates are numbers that are no states of g.
func noStates(g api.Graph) []int {
	list := []int{-1, -2, math.MinInt, math.MinInt + 1, g.States, g.States + 1, 64, 65, 1 << 32, math.MaxInt - 1, math.MaxInt}
	return slices.DeleteFunc(list, func(s int) bool { return s >= 0 && s < g.States })
}
