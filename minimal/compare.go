package minimal

import (
	"slices"

	"groove/api"
	"groove/graph"
	"groove/subset"
)

// Separate returns the first word that exactly one of two states of g has, and whether there is one.
func Separate(g api.Graph, s, t int) ([]int, bool, api.Errno) {
	if e := checkDeterministic(g); e != api.OK {
		return nil, false, e
	}
	if s < 0 || s >= g.States || t < 0 || t >= g.States {
		return nil, false, api.ErrState
	}
	m := machineOf(g, g.Labels)
	word, is := firstWord(m, m, pair{s, t}, exactlyOne)
	return word, is, api.OK
}

// Included returns whether all words of g are words of h; otherwise also the first one that is none.
func Included(g, h api.Graph) ([]int, bool, api.Errno) {
	return compare(g, h, onlyFirst)
}

// Equal returns whether g and h have the same words; otherwise also the first word that exactly one of them has.
func Equal(g, h api.Graph) ([]int, bool, api.Errno) {
	return compare(g, h, exactlyOne)
}

// exactlyOne returns whether a word belongs to exactly one of two things, if it is told whether it belongs to each of them.
func exactlyOne(first, second bool) bool { return first != second }

// onlyFirst returns whether a word belongs to the first one of two things, and not to the second one.
func onlyFirst(first, second bool) bool { return first && !second }

// compare returns the first word for which a function returns true that is told whether the word is one of g, and whether it is one of h; or no word and true if there is none.
func compare(g, h api.Graph, differs func(first, second bool) bool) ([]int, bool, api.Errno) {
	if graph.Check(g) != api.OK || graph.Check(h) != api.OK {
		return nil, false, api.ErrArgument
	}
	first, _, e := subset.Build(g)
	if e != api.OK {
		return nil, false, e
	}
	second, _, e := subset.Build(h)
	if e != api.OK {
		return nil, false, e
	}
	labels := max(g.Labels, h.Labels)
	// The words of a graph lead from the state 0 of its graph of sets to states; without states, the state 0 is the one that is none.
	word, is := firstWord(machineOf(first, labels), machineOf(second, labels), pair{0, 0}, differs)
	return word, !is, api.OK
}

// machine is a deterministic graph: for each state and each label, the state to which it leads. Behind the states there is a row of one that is none: labels lead to it that no edge of a state has, and all labels lead from it to itself.
type machine [][]int

// machineOf returns the machine of a deterministic graph for some labels, at least those of the graph.
func machineOf(g api.Graph, labels int) machine {
	m := make(machine, g.States+1)
	for s := range m {
		m[s] = slices.Repeat([]int{m.none()}, labels)
	}
	for _, edge := range g.Edges {
		m[edge.From][edge.Label] = edge.To
	}
	return m
}

// none returns the number of what is no state.
func (m machine) none() int { return len(m) - 1 }

// found is a pair that a search has found, behind another one in its queue, by a label.
type found struct {
	at            pair
	behind, label int
}

// firstWord returns the first word that leads two machines from a pair of states to one that differs, and whether there is one. A function decides that, which is told of each of the two whether it is a state.
func firstWord(a, b machine, start pair, differs func(first, second bool) bool) ([]int, bool) {
	queue := []found{{at: start}}
	known := map[pair]bool{start: true}
	// No word leads on from here, so nothing behind it differs.
	nowhere := pair{a.none(), b.none()}
	for i := 0; i < len(queue); i++ {
		at := queue[i].at
		if differs(at[0] != a.none(), at[1] != b.none()) {
			return wordTo(queue, queue[i]), true
		}
		for label := range a[at[0]] {
			next := pair{a[at[0]][label], b[at[1]][label]}
			if next != nowhere && !known[next] {
				known[next] = true
				queue = append(queue, found{next, i, label})
			}
		}
	}
	return nil, false
}

// wordTo returns the word that leads from the first pair of a queue, which is not found again, to another one.
func wordTo(queue []found, last found) []int {
	var word []int
	for ; last != queue[0]; last = queue[last.behind] {
		word = append(word, last.label)
	}
	slices.Reverse(word)
	return word
}
