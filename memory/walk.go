package memory

import (
	"iter"

	"groove/api"
	"groove/graph"
	"groove/states"
)

// pairs are pairs of states: for each state, those that stand behind it in one.
type pairs [api.MaxState]states.Set

// add adds a pair of states.
func (p *pairs) add(s, t int) { p[s] |= states.Of(t) }

// has returns whether two states are a pair.
func (p pairs) has(s, t int) bool { return p[s].Has(t) }

// meet returns whether a pair belongs to both p and q.
func (p pairs) meet(q pairs) bool {
	for s := range p {
		if p[s]&q[s] != 0 {
			return true
		}
	}
	return false
}

// walk follows two paths with equal labels through a graph, step by step, wherever they begin.
type walk struct {
	edges []api.Edge
	moves states.Moves
	at    pairs // the states in which the paths can be
}

// walkOf returns the walk through a valid graph before its first step.
func walkOf(g api.Graph) *walk {
	w := &walk{edges: g.Edges, moves: states.MovesOf(g)}
	for s := range g.States {
		w.at[s] = states.Every(g)
	}
	return w
}

// backwards returns the walk along the edges of a graph that are turned around: its pairs are those from which two paths with equal labels lead, which have as many edges as there were steps.
func backwards(g api.Graph) (*walk, api.Errno) {
	reversed, e := graph.Reverse(g)
	if e != api.OK {
		return nil, e
	}
	return walkOf(reversed), api.OK
}

// step goes on by an edge on both paths. It returns whether the pairs have become fewer; if not, they stay the same ever after.
func (w *walk) step() bool {
	var next pairs
	for _, edge := range w.edges {
		next[edge.To] |= w.moves.Step(w.at[edge.From], edge.Label)
	}
	fewer := next != w.at
	w.at = next
	return fewer
}

// together returns whether both paths are always in the same state.
func (w *walk) together() bool {
	for s, others := range w.at {
		if others&^states.Of(s) != 0 {
			return false
		}
	}
	return true
}

// stepsUntil returns the number of steps behind which something is done, and whether it ever is. A step returns whether it has changed anything.
func stepsUntil(done, step func() bool) (int, bool) {
	for n := 0; ; n++ {
		if done() {
			return n, true
		}
		if !step() {
			return 0, false
		}
	}
}

// repeat makes a number of steps, but none behind one that has changed nothing.
func repeat(n int, step func() bool) {
	for range n {
		if !step() {
			return
		}
	}
}

// twins yields the indices of two different edges with equal labels, in the order of the first ones, then of the second ones.
func twins(g api.Graph) iter.Seq2[int, int] {
	return func(yield func(int, int) bool) {
		for i, one := range g.Edges {
			for j, other := range g.Edges {
				if i != j && one.Label == other.Label && !yield(i, j) {
					return
				}
			}
		}
	}
}

// firstEdges yields two different edges with which two paths with equal labels can begin in the same state.
func firstEdges(g api.Graph) iter.Seq2[api.Edge, api.Edge] {
	return func(yield func(api.Edge, api.Edge) bool) {
		for i, j := range twins(g) {
			if g.Edges[i].From == g.Edges[j].From && !yield(g.Edges[i], g.Edges[j]) {
				return
			}
		}
	}
}
