package forbidden_test

import (
	"math/rand"
	"slices"
	"strings"
	"testing"

	"groove/api"
	"groove/forbidden"
	"groove/graph"
	"groove/language"
	"groove/minimal"
	"groove/samples"
)

// wholeGraph returns the graph of a list before its essential part is taken, by the definition.
func wholeGraph(c constraint) api.Graph {
	states := statesOf(c.l)
	var edges []api.Edge
	for s, p := range states {
		for label := range c.q {
			w := p + letters[label:label+1]
			if slices.ContainsFunc(c.l, func(u string) bool { return strings.HasSuffix(w, u) }) {
				continue
			}
			longest := 0
			for to, suffix := range states {
				if strings.HasSuffix(w, suffix) && len(suffix) > len(states[longest]) {
					longest = to
				}
			}
			edges = append(edges, api.Edge{From: s, Label: label, To: longest})
		}
	}
	return samples.Made(c.q, len(states), edges)
}

// P14.1: the graphs of all lists are those of the definition, with its limit.
func TestGraphs(t *testing.T) {
	limited := 0
	for _, c := range slices.Concat(every(2, 3), constraints(11)) {
		if len(statesOf(c.l)) > api.MaxState {
			checkGraphError(t, c.q, c.l, api.ErrLimit)
			limited++
			continue
		}
		want, _, _ := graph.Essential(wholeGraph(c))
		if g := graphOf(t, c); !graph.Same(g, want) {
			t.Fatalf("P14.1: Graph %d, %q: %v, not %v", c.q, c.l, g, want)
		}
	}
	if limited < 20 {
		t.Errorf("only %d lists with too many states", limited)
	}
}

// goingOn returns those allowed words of n letters that can be extended without end to the left, and those that can be to the right, if no forbidden word has more than n + 1 letters.
func goingOn(c constraint, n int) (left, right map[string]bool) {
	left, right = map[string]bool{}, map[string]bool{}
	for _, w := range samples.Strings(letters[:c.q], n) {
		if isAllowed(c.l, w) {
			left[w], right[w] = true, true
		}
	}
	drop := func(words map[string]bool, longer func(w, letter string) (string, string)) {
		for before := -1; before != len(words); {
			before = len(words)
			for w := range words {
				if !slices.ContainsFunc(strings.Split(letters[:c.q], ""), func(letter string) bool {
					all, next := longer(w, letter)
					return isAllowed(c.l, all) && words[next]
				}) {
					delete(words, w)
				}
			}
		}
	}
	drop(left, func(w, letter string) (string, string) { return letter + w, (letter + w)[:n] })
	drop(right, func(w, letter string) (string, string) { return w + letter, (w + letter)[1:] })
	return left, right
}

// P14.3: the words of the graph, from the length of the longest forbidden word less 1 on, are those that are allowed and can be extended without end.
func TestWordsOfGraphs(t *testing.T) {
	checked := 0
	for _, c := range slices.Concat(every(2, 3), constraints(12)) {
		n := max(0, forbidden.Longest(c.l)-1)
		if n > size(c.q) || len(statesOf(c.l)) > api.MaxState {
			continue
		}
		g := graphOf(t, c)
		left, right := goingOn(c, n)
		for length := n; length <= min(n+2, size(c.q)); length++ {
			want := slices.DeleteFunc(samples.Strings(letters[:c.q], length), func(w string) bool {
				return !isAllowed(c.l, w) || !left[w[:n]] || !right[w[length-n:]]
			})
			if words, e := language.Words(g, length); e != api.OK || !slices.Equal(words, want) {
				t.Fatalf("P14.3: words of %d letters of the graph of %d, %q: %q, %d, not %q", length, c.q, c.l, words, e, want)
			}
			checked++
		}
	}
	if checked < 20000 {
		t.Errorf("P14.3: only %d lists of words", checked)
	}
}

// P14.6: a further forbidden word takes words away, and adds none.
func TestMoreWords(t *testing.T) {
	r := rand.New(rand.NewSource(13))
	less := 0
	for _, c := range constraints(14) {
		u := samples.String(r, letters[:c.q], 1+r.Intn(6))
		more := constraint{c.q, inOrder(append(slices.Clone(c.l), u)...)}
		if len(statesOf(c.l)) > api.MaxState || len(statesOf(more.l)) > api.MaxState || len(more.l) > api.MaxCode {
			continue
		}
		g, h := graphOf(t, c), graphOf(t, more)
		if w, is, e := minimal.Included(h, g); e != api.ErrLimit && (e != api.OK || !is) {
			t.Fatalf("P14.6: %v is a word of the graph of %q, but not of that of %q: %d", w, more.l, c.l, e)
		}
		if is, _ := language.Accepts(h, u); is {
			t.Fatalf("P14.6: %q is a word of the graph of %q", u, more.l)
		}
		if is, _ := language.Accepts(g, u); is {
			less++
		}
	}
	if less < 100 {
		t.Errorf("P14.6: only %d words are taken away", less)
	}
}

// P14.1: the chapter's examples, and other known graphs.
func TestKnownGraphs(t *testing.T) {
	for _, c := range []struct {
		q    int
		l    []string
		want api.Graph
	}{
		{2, []string{"11"}, samples.Golden()}, {2, []string{"0", "1"}, samples.Of(2, 0)}, {2, []string{"00", "11"}, samples.Of(2, 2, 0, 1, 1, 1, 0, 0)}, {2, []string{"1", "101"}, samples.Of(2, 1, 0, 0, 0)},
		{1, nil, samples.Whole(1)}, {2, nil, samples.Whole(2)}, {16, nil, samples.Whole(16)}, {1, []string{"0"}, samples.Of(1, 0)}, {1, []string{strings.Repeat("0", api.MaxLength)}, samples.Of(1, 0)},
		{2, []string{"10"}, samples.Stairs()}, {2, []string{"01"}, samples.Of(2, 2, 0, 1, 0, 1, 0, 1, 0, 0, 1)},
		// 1 and 11 are states, 101 leads back to 1, and 110 to the empty word.
		{2, []string{"111"}, samples.Of(2, 3, 0, 0, 0, 0, 1, 1, 1, 0, 0, 1, 1, 2, 2, 0, 0)},
		// 0110 leads to 01: the state 0, since 110 and 10 are none.
		{2, []string{"0111"}, samples.Of(2, 4, 0, 0, 1, 0, 1, 0, 1, 0, 1, 1, 1, 2, 2, 0, 1, 2, 1, 3, 3, 0, 1)},
		// 0, 1, 01 and 10; only 0 and 1 stay.
		{2, []string{"010", "101"}, samples.Of(2, 4, 0, 0, 0, 0, 1, 2, 1, 0, 3, 1, 1, 1, 2, 1, 1, 3, 0, 0)},
		// The prefix 1 of 10 is not allowed.
		{2, []string{"1", "10"}, samples.Of(2, 1, 0, 0, 0)}, {3, []string{"0", "1", "2"}, samples.Of(3, 0)}, {3, []string{"2", "11"}, samples.Of(3, 2, 0, 0, 0, 0, 1, 1, 1, 0, 0)},
	} {
		if g := graphOf(t, constraint{c.q, c.l}); !graph.Same(g, c.want) {
			t.Errorf("P14.1: Graph %d, %q: %v, not %v", c.q, c.l, g, c.want)
		}
	}
}

// P14.1: as many states as there may be before the essential part is taken, and one more; prefixes that are equal or not allowed do not count.
func TestStates(t *testing.T) {
	zeros, ones := strings.Repeat("0", api.MaxLength), strings.Repeat("1", api.MaxLength)
	for _, c := range []struct {
		q      int
		l      []string
		states int
	}{
		{2, []string{zeros, ones}, 63}, {3, []string{"20", zeros, ones}, 64}, {3, []string{"200", zeros, ones}, 65}, {3, []string{"20", "21", zeros, ones}, 64}, {4, []string{"20", "30", zeros, ones}, 65},
		{3, []string{"2", "20" + zeros[2:], zeros, ones}, 63}, {3, []string{"2", zeros, ones, "2" + zeros[1:]}, 63}, {2, []string{"0", "1", zeros, ones}, 1},
		// The essential part has fewer states: none, and one.
		{3, []string{"0", "1", "2" + strings.Repeat("2", 31)}, 32}, {4, []string{"22", "200", "300", zeros, ones}, 67}, {3, []string{"20", "21", "22", zeros, ones}, 64}, {3, []string{"00", "11", "200", "201", "202", "21", "22"}, 5},
	} {
		l := inOrder(c.l...)
		if n := len(statesOf(l)); n != c.states {
			t.Fatalf("%q: %d states", l, n)
		}
		if c.states > api.MaxState {
			checkGraphError(t, c.q, l, api.ErrLimit)
			continue
		}
		if g := graphOf(t, constraint{c.q, l}); g.States > c.states {
			t.Errorf("P14.1: Graph %q: %d states", l, g.States)
		}
	}
}

// P14.1: 48 words of three letters over 16 letters, for which the graph has 64 states, and nearly as many edges as there may be: the letter f leads back to the empty word.
func TestManyEdges(t *testing.T) {
	var l []string
	for i := range 48 {
		l = append(l, letters[i%15:i%15+1]+letters[i/15:i/15+1]+"f")
	}
	if g := graphOf(t, constraint{16, inOrder(l...)}); g.States != api.MaxState || len(g.Edges) != api.MaxEdge-48 {
		t.Errorf("P14.1: Graph of 48 words over 16 letters: %d states, %d edges", g.States, len(g.Edges))
	}
}
