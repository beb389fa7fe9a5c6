package forbidden

import (
	"slices"

	"groove/api"
	"groove/graph"
)

// Graph returns the graph whose words are those words without factors in l that go on without end in both directions.
func Graph(q int, l []string) (api.Graph, api.Errno) {
	if Check(q, l) != api.OK {
		return api.Graph{}, api.ErrArgument
	}
	forbidden, longest := setOf(l), Longest(l)
	allowed := func(w string) bool { return isAllowed(forbidden, longest, w) }
	prefixes := allowedPrefixes(l, allowed)
	if len(prefixes) > api.MaxState {
		return api.Graph{}, api.ErrLimit
	}
	states := make(map[string]int)
	for s, p := range prefixes {
		states[p] = s
	}
	g := api.Graph{Labels: q, States: len(prefixes)}
	for s, p := range prefixes {
		for label := range q {
			if w := p + api.Letters[label:label+1]; allowed(w) {
				g.Edges = append(g.Edges, api.Edge{From: s, Label: label, To: longestSuffix(states, w)})
			}
		}
	}
	essential, _, e := graph.Essential(g)
	return essential, e
}

// allowedPrefixes returns the empty word and those proper prefixes of words of l that are allowed, in order.
func allowedPrefixes(l []string, allowed func(w string) bool) []string {
	list := []string{""}
	for _, w := range l {
		for n := range len(w) {
			if allowed(w[:n]) {
				list = append(list, w[:n])
			}
		}
	}
	slices.SortFunc(list, compare)
	return slices.Compact(list)
}

// longestSuffix returns the state of the longest suffix of w that is one; the empty word is one.
func longestSuffix(states map[string]int, w string) int {
	for {
		if s, is := states[w]; is {
			return s
		}
		w = w[1:]
	}
}
