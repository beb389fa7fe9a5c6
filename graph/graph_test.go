package graph_test

import (
	"math/rand"
	"slices"
	"testing"

	"groove/api"
	"groove/graph"
)

// P9.1: the example of the chapter.
func TestExample(t *testing.T) {
	g := golden()
	if !deterministicOf(t, g) {
		t.Error("P9.1: Deterministic")
	}
	if to := stepOf(t, g, stepOf(t, g, []int{0, 1}, 1), 1); len(to) > 0 {
		t.Errorf("P9.1: two steps with 1: %v", to)
	}
	if s := printOf(t, g); s != "graph 2 2\n0 0 0\n0 1 1\n1 0 0\n" {
		t.Errorf("P9.1: Print: %q", s)
	}
	further := of(2, 3, 0, 0, 0, 0, 1, 1, 1, 0, 0, 1, 1, 2)
	if p, set := essentialOf(t, further); !graph.Same(p, g) || !slices.Equal(set, []int{0, 1}) {
		t.Errorf("P9.1: Essential: %v, %v", p, set)
	}
}

// P9.1: valid graphs, the greatest ones among them, against the definition.
func TestCheckValid(t *testing.T) {
	for _, g := range samples(91) {
		if e := graph.Check(g); !isValid(g) || e != api.OK {
			t.Fatalf("P9.1: Check %v: %d", g, e)
		}
	}
}

// P9.1: graphs that are not valid: the first error, and no result of any function.
func TestFaults(t *testing.T) {
	for _, f := range faults() {
		if e := graph.Check(f.g); isValid(f.g) || e != f.e {
			t.Errorf("P9.1: Check %v: %d, not %d", f.g, e, f.e)
		}
		checkArgument(t, f.g)
	}
}

// checkArgument checks that the functions refuse a graph before all other arguments, and that there is no result beside the error.
func checkArgument(t *testing.T, g api.Graph) {
	t.Helper()
	for _, s := range []int{0, 1, -1, 65} {
		if l, e := graph.Out(g, s); e != api.ErrArgument || len(l) > 0 {
			t.Errorf("P9.1: Out %v, %d: %v, %d", g, s, l, e)
		}
		for _, set := range [][]int{nil, {s}, {0, 0}, {1, 0}} {
			if l, e := graph.Step(g, set, s); e != api.ErrArgument || len(l) > 0 {
				t.Errorf("P9.1: Step %v, %v, %d: %v, %d", g, set, s, l, e)
			}
			if p, e := graph.Keep(g, set); e != api.ErrArgument || !isZero(p) {
				t.Errorf("P9.1: Keep %v, %v: %v, %d", g, set, p, e)
			}
		}
	}
	if is, e := graph.Deterministic(g); e != api.ErrArgument || is {
		t.Errorf("P9.1: Deterministic %v: %v, %d", g, is, e)
	}
	if r, e := graph.Reverse(g); e != api.ErrArgument || !isZero(r) {
		t.Errorf("P9.1: Reverse %v: %v, %d", g, r, e)
	}
	if p, set, e := graph.Essential(g); e != api.ErrArgument || !isZero(p) || len(set) > 0 {
		t.Errorf("P9.1: Essential %v: %v, %v, %d", g, p, set, e)
	}
	if s, e := graph.Print(g); e != api.ErrArgument || s != "" {
		t.Errorf("P9.1: Print %v: %q, %d", g, s, e)
	}
}

// P9.1: small graphs with numbers from around the bounds, valid or not, against the definition.
func TestCheckRandom(t *testing.T) {
	r := rand.New(rand.NewSource(92))
	valid := 0
	for range 20000 {
		g := api.Graph{Labels: r.Intn(4), States: r.Intn(5) - 1}
		for range r.Intn(4) {
			g.Edges = append(g.Edges, api.Edge{From: r.Intn(5) - 1, Label: r.Intn(5) - 1, To: r.Intn(5) - 1})
		}
		e := graph.Check(g)
		if is := isValid(g); is != (e == api.OK) {
			t.Fatalf("P9.1: Check %v: %d", g, e)
		} else if is {
			valid++
		}
	}
	if valid < 500 {
		t.Errorf("P9.1: %d valid graphs", valid)
	}
}

// P9.1: graphs that differ in one number, in the order or the number of edges, are not the same; whether they are valid does not matter.
func TestSame(t *testing.T) {
	list := known()
	for _, f := range faults() {
		list = append(list, f.g)
	}
	for i, a := range list {
		if !graph.Same(a, a) || !graph.Same(a, copied(a)) {
			t.Errorf("P9.1: Same %v", a)
		}
		for _, b := range list[:i] {
			if is := isSame(a, b); graph.Same(a, b) != is || graph.Same(b, a) != is {
				t.Errorf("P9.1: Same %v, %v: not %v", a, b, is)
			}
		}
		for _, b := range neighbours(a) {
			if graph.Same(a, b) || graph.Same(b, a) {
				t.Errorf("P9.1: Same %v, %v", a, b)
			}
		}
	}
	if !graph.Same(api.Graph{Labels: 3, States: -7}, api.Graph{Labels: 3, States: -7, Edges: []api.Edge{}}) {
		t.Error("P9.1: Same of nil and no edges")
	}
}

// neighbours returns graphs that differ from g in one thing.
func neighbours(g api.Graph) []api.Graph {
	more, state, longer := copied(g), copied(g), copied(g)
	more.Labels++
	state.States--
	longer.Edges = append(longer.Edges, api.Edge{From: 63, Label: 255, To: 62})
	list := []api.Graph{more, state, longer}
	last := len(g.Edges) - 1
	if last < 0 {
		return list
	}
	from, label, to, shorter := copied(g), copied(g), copied(g), copied(g)
	from.Edges[last].From++
	label.Edges[0].Label--
	to.Edges[last/2].To++
	shorter.Edges = shorter.Edges[:last]
	return append(list, from, label, to, shorter)
}

// P9.2: the edges of a graph in other orders, and more often, make the graph.
func TestMake(t *testing.T) {
	r := rand.New(rand.NewSource(93))
	for _, g := range samples(94) {
		l := slices.Clone(g.Edges)
		for range 1 + r.Intn(3) {
			for range r.Intn(4) {
				if len(g.Edges) > 0 {
					l = append(l, g.Edges[r.Intn(len(g.Edges))])
				}
			}
			r.Shuffle(len(l), func(i, j int) { l[i], l[j] = l[j], l[i] })
			kept := slices.Clone(l)
			m, e := graph.Make(g.Labels, g.States, l)
			if e != api.OK || !isSame(m, g) {
				t.Fatalf("P9.2: Make %d, %d, %v: %v, %d", g.Labels, g.States, l, m, e)
			}
			if !slices.Equal(l, kept) {
				t.Fatalf("P9.2: Make changes %v to %v", kept, l)
			}
		}
	}
}

// P9.2: what Make returns is valid, and has just the edges of the list.
func TestMakeRandom(t *testing.T) {
	r := rand.New(rand.NewSource(95))
	for range 5000 {
		labels, states := 1+r.Intn(3), 1+r.Intn(4)
		var l []api.Edge
		given := map[api.Edge]bool{}
		for range r.Intn(30) {
			edge := api.Edge{From: r.Intn(states), Label: r.Intn(labels), To: r.Intn(states)}
			l = append(l, edge)
			given[edge] = true
		}
		m, e := graph.Make(labels, states, l)
		if e != api.OK || m.Labels != labels || m.States != states || !isValid(m) || graph.Check(m) != api.OK || len(m.Edges) != len(given) {
			t.Fatalf("P9.2: Make %d, %d, %v: %v, %d", labels, states, l, m, e)
		}
		for _, edge := range m.Edges {
			if !given[edge] {
				t.Fatalf("P9.2: Make %d, %d, %v: %v", labels, states, l, edge)
			}
		}
	}
}

// checkMake checks the error of what is to be made a graph, in both orders of the edges, and that there is no graph beside it.
func checkMake(t *testing.T, labels, states int, l []api.Edge, want api.Errno) {
	t.Helper()
	turned := slices.Clone(l)
	slices.Reverse(turned)
	for _, l := range [][]api.Edge{l, turned} {
		if m, e := graph.Make(labels, states, l); e != want || !isZero(m) {
			t.Errorf("P9.2: Make %d, %d, %d edges, %v: %v, %d", labels, states, len(l), l[:min(4, len(l))], m, e)
		}
	}
}

// P9.2: graphs that are not valid for other reasons than the order of their edges are not made.
func TestMakeFaults(t *testing.T) {
	for _, f := range faults() {
		l := map[api.Edge]bool{}
		inRange := true
		for _, edge := range f.g.Edges {
			l[edge] = true
			inRange = inRange && min(edge.From, edge.Label, edge.To) >= 0 && max(edge.From, edge.To) < f.g.States && edge.Label < f.g.Labels
		}
		m, e := graph.Make(f.g.Labels, f.g.States, f.g.Edges)
		switch {
		case f.g.Labels < 1 || f.g.Labels > 256:
			checkMake(t, f.g.Labels, f.g.States, f.g.Edges, api.ErrAlphabet)
		case f.g.States < 0:
			checkMake(t, f.g.Labels, f.g.States, f.g.Edges, api.ErrRange)
		case f.g.States > 64 || len(l) > 1024:
			checkMake(t, f.g.Labels, f.g.States, f.g.Edges, api.ErrLimit)
		case !inRange:
			checkMake(t, f.g.Labels, f.g.States, f.g.Edges, api.ErrRange)
		case e != api.OK || !isValid(m) || len(m.Edges) != len(l):
			t.Errorf("P9.2: Make %v: %v, %d", f.g, m, e)
		}
	}
}

// P9.2: edges that occur more than once count once for the limit: MaxEdge of them and one more, and equal ones that are not valid.
func TestMakeMany(t *testing.T) {
	g := full()
	for n := 1; n <= 3; n++ {
		m, e := graph.Make(g.Labels, g.States, slices.Repeat(g.Edges, n))
		if e != api.OK || !isSame(m, g) {
			t.Errorf("P9.2: Make of all edges, %d times: %d edges, %d", n, len(m.Edges), e)
		}
	}
	more := append(slices.Clone(g.Edges), api.Edge{From: 63, Label: 254, To: 0})
	checkMake(t, 256, 64, more, api.ErrLimit)
	checkMake(t, 256, 64, slices.Repeat(more, 2), api.ErrLimit)
	checkMake(t, 256, 64, append(more, api.Edge{From: -1}), api.ErrLimit)
	checkMake(t, 257, 64, more, api.ErrAlphabet)
	checkMake(t, 256, -1, more, api.ErrRange)
	if m, e := graph.Make(2, 2, make([]api.Edge, 100000)); e != api.OK || !isSame(m, of(2, 2, 0, 0, 0)) {
		t.Errorf("P9.2: Make of equal edges: %v, %d", m, e)
	}
	checkMake(t, 2, 2, slices.Repeat(edges(0, 2, 0), 5000), api.ErrRange)
	checkMake(t, 2, 2, slices.Repeat(edges(2, 0, 0), 5000), api.ErrRange)
	checkMake(t, 2, 0, make([]api.Edge, 5000), api.ErrRange)
	for _, l := range [][]api.Edge{nil, {}} {
		if m, e := graph.Make(1, 0, l); e != api.OK || !isSame(m, of(1, 0)) {
			t.Errorf("P9.2: Make of no edges: %v, %d", m, e)
		}
	}
}

// P9.1: no function changes its arguments, and what a caller does with results changes neither them nor later results.
func TestMemory(t *testing.T) {
	for _, g := range known() {
		kept, set := copied(g), all(g)
		l := slices.Clone(g.Edges)
		for range 2 {
			m, _ := graph.Make(g.Labels, g.States, l)
			p, states := essentialOf(t, g)
			out, _ := graph.Out(g, 0)
			results := []api.Graph{m, p, reverseOf(t, g), keepOf(t, g, set)}
			if !isSame(m, kept) || !isSame(results[3], kept) {
				t.Fatalf("P9.1: %v has changed", kept)
			}
			lists := [][]int{states, out, stepOf(t, g, set, 0)}
			for _, result := range results {
				for i := range result.Edges {
					result.Edges[i] = api.Edge{From: -9, Label: -9, To: -9}
				}
			}
			for _, list := range lists {
				for i := range list {
					list[i] = -9
				}
			}
			if !isSame(g, kept) || !slices.Equal(set, all(g)) || !slices.Equal(l, kept.Edges) {
				t.Fatalf("P9.1: arguments of %v have changed", kept)
			}
		}
	}
}
