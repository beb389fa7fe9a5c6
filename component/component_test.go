package component_test

import (
	"slices"
	"testing"

	"groove/api"
	"groove/component"
	"groove/samples"
)

// P10.2, P10.4, P10.5: components, cyclic ones and sinks of all graphs with four states, and of those of all kinds, against the definitions.
func TestDefinitions(t *testing.T) {
	for _, g := range slices.Concat(graphs(21), samples.Subgraphs(1, 4)) {
		all := partsOf(g)
		if list := componentsOf(t, g); !isSame(list, all) {
			t.Fatalf("P10.2: Of %v: %v, not %v", g, list, all)
		}
		cyclic := filter(all, func(set []int) bool { return hasEdge(g, set) })
		if list := cyclicOf(t, g); !isSame(list, cyclic) {
			t.Fatalf("P10.5: Cyclic %v: %v, not %v", g, list, cyclic)
		}
		ends := filter(all, func(set []int) bool { return !isLeft(g, set) })
		if list := sinksOf(t, g); !isSame(list, ends) {
			t.Fatalf("P10.4: Sinks %v: %v, not %v", g, list, ends)
		}
		is := len(all) == 1 && len(cyclic) == 1
		if isIrreducible(t, g) != is {
			t.Fatalf("P10.5: Irreducible %v: not %v", g, is)
		}
		if !is {
			checkKind(t, g)
		}
	}
}

// P10.2: each state is in exactly one component, and two states are in one exactly if each is reached from the other one; states and components ascend.
func TestComponents(t *testing.T) {
	for _, g := range graphs(22) {
		place := slices.Repeat([]int{-1}, g.States)
		least := -1
		for i, set := range componentsOf(t, g) {
			if len(set) == 0 || set[0] <= least || !slices.IsSorted(set) {
				t.Fatalf("P10.2: Of %v: %v", g, set)
			}
			least = set[0]
			for _, s := range set {
				if place[s] >= 0 {
					t.Fatalf("P10.2: Of %v: %d occurs twice", g, s)
				}
				place[s] = i
			}
		}
		if slices.Contains(place, -1) {
			t.Fatalf("P10.2: Of %v: %d does not occur", g, slices.Index(place, -1))
		}
		reached := make([][]int, g.States)
		for s := range reached {
			reached[s] = reachOf(t, g, s)
		}
		for s := range reached {
			for u := range reached {
				both := slices.Contains(reached[s], u) && slices.Contains(reached[u], s)
				if both != (place[s] == place[u]) {
					t.Fatalf("P10.2: Of %v: %d and %d", g, s, u)
				}
			}
		}
	}
}

// P10.3: what is reached from a state, against the definition: the state itself, whatever edges lead to, and nothing else.
func TestReach(t *testing.T) {
	for _, g := range graphs(23) {
		a := reaches(g)
		for s := range g.States {
			list := reachOf(t, g, s)
			if !slices.Contains(list, s) {
				t.Fatalf("P10.3: Reach %v, %d: %v", g, s, list)
			}
			for _, edge := range g.Edges {
				if slices.Contains(list, edge.From) && !slices.Contains(list, edge.To) {
					t.Fatalf("P10.3: Reach %v, %d: %v, without %d", g, s, list, edge.To)
				}
			}
			var want []int
			for u := range g.States {
				if a.has(s, u) {
					want = append(want, u)
				}
			}
			if !slices.Equal(list, want) {
				t.Fatalf("P10.3: Reach %v, %d: %v, not %v", g, s, list, want)
			}
		}
	}
}

// P10.3: known states that are reached, along paths of all states, in cycles, and alone.
func TestKnownReach(t *testing.T) {
	g := of(6, 0, 3, 3, 1, 1, 3, 4, 2, 2, 2, 2, 0)
	for _, c := range []struct {
		g    api.Graph
		s    int
		want []int
	}{
		{g, 0, []int{0, 1, 3}}, {g, 1, []int{1, 3}}, {g, 2, []int{0, 1, 2, 3}}, {g, 3, []int{1, 3}}, {g, 4, []int{0, 1, 2, 3, 4}}, {g, 5, []int{5}},
		{of(1), 0, []int{0}}, {of(1, 0, 0), 0, []int{0}}, {of(64), 63, []int{63}}, {chain(64), 0, upTo(64)}, {chain(64), 63, []int{63}}, {chain(64), 61, []int{61, 62, 63}}, {back(64), 63, upTo(64)}, {back(64), 0, []int{0}}, {back(64), 31, upTo(32)},
		{cycle(64), 40, upTo(64)}, {dense(0, 1), 17, upTo(64)}, {apart(), 20, upTo(32)[16:]}, {dense(0, 2), 1, steps(2)[1]}, {everyLabel(), 1, []int{0, 1}},
	} {
		if list := reachOf(t, c.g, c.s); !slices.Equal(list, c.want) {
			t.Errorf("P10.3: Reach %v, %d: %v, not %v", c.g, c.s, list, c.want)
		}
	}
}

// P10.3: numbers that are no states reach nothing.
func TestReachErrors(t *testing.T) {
	for _, k := range known() {
		for _, s := range noStates(k.g) {
			if list, e := component.Reach(k.g, s); e != api.ErrState || len(list) > 0 {
				t.Errorf("P10.3: Reach %v, %d: %v, %d", k.g, s, list, e)
			}
		}
	}
}

// P10.4: no edge leaves a sink, a sink is reached from each state, and sinks are components.
func TestSinks(t *testing.T) {
	still, cyclic := 0, 0
	for _, g := range graphs(24) {
		all, ends := componentsOf(t, g), sinksOf(t, g)
		if (g.States > 0) != (len(ends) > 0) {
			t.Fatalf("P10.4: Sinks %v: %v", g, ends)
		}
		for _, set := range ends {
			if isLeft(g, set) || !slices.ContainsFunc(all, func(c []int) bool { return slices.Equal(c, set) }) {
				t.Fatalf("P10.4: Sinks %v: %v", g, set)
			}
			if hasEdge(g, set) {
				cyclic++
			} else {
				still++
			}
		}
		for s := range g.States {
			list := reachOf(t, g, s)
			if !slices.ContainsFunc(ends, func(set []int) bool { return slices.Contains(list, set[0]) }) {
				t.Fatalf("P10.4: no sink of %v is reached from %d", g, s)
			}
		}
	}
	if still < 500 || cyclic < 500 {
		t.Errorf("P10.4: %d sinks are cyclic, %d are not", cyclic, still)
	}
}

// P10.5: the part on a cyclic component is irreducible, that on another one is not; an edge lies in one of the former exactly if a path leads from its end to its beginning.
func TestCyclicParts(t *testing.T) {
	for _, g := range graphs(25) {
		cyclic := cyclicOf(t, g)
		for _, set := range componentsOf(t, g) {
			is := slices.ContainsFunc(cyclic, func(c []int) bool { return slices.Equal(c, set) })
			if p := keepOf(t, g, set); isIrreducible(t, p) != is {
				t.Fatalf("P10.5: Irreducible %v, the part of %v on %v", p, g, set)
			}
		}
		a := reaches(g)
		for _, edge := range g.Edges {
			within := slices.ContainsFunc(cyclic, func(set []int) bool {
				return slices.Contains(set, edge.From) && slices.Contains(set, edge.To)
			})
			if within != a.has(edge.To, edge.From) {
				t.Fatalf("P10.5: Cyclic %v: %v, edge %v", g, cyclic, edge)
			}
		}
	}
}

// P10.8: the reversed graph has the same components, of which the same ones are cyclic, and is irreducible exactly if the graph is.
func TestReversedComponents(t *testing.T) {
	for _, g := range graphs(26) {
		r := reversed(t, g)
		if a, b := componentsOf(t, g), componentsOf(t, r); !isSame(a, b) {
			t.Fatalf("P10.8: Of %v: %v, reversed %v", g, a, b)
		}
		if a, b := cyclicOf(t, g), cyclicOf(t, r); !isSame(a, b) {
			t.Fatalf("P10.8: Cyclic %v: %v, reversed %v", g, a, b)
		}
		if isIrreducible(t, g) != isIrreducible(t, r) {
			t.Fatalf("P10.8: Irreducible %v", g)
		}
	}
}
