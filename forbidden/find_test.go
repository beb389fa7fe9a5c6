package forbidden_test

import (
	"fmt"
	"math/rand"
	"slices"
	"strings"
	"testing"

	"groove/api"
	"groove/forbidden"
	"groove/minimal"
	"groove/samples"
)

// foundBy returns the minimal forbidden words of up to n letters, by the definition, of a graph with some words.
func foundBy(q int, words map[string]bool, n int) []string {
	var list []string
	for w := range words {
		for _, letter := range letters[:q] {
			longer := w + string(letter)
			if len(w) < n && !words[longer] && words[longer[1:]] {
				list = append(list, longer)
			}
		}
	}
	return inOrder(list...)
}

// graphs returns graphs with labels that are letters.
func graphs(seed int64) []api.Graph {
	r := rand.New(rand.NewSource(seed))
	return slices.DeleteFunc(append(samples.Small(r), samples.Large(r)...), func(g api.Graph) bool { return g.Labels > api.MaxLetter })
}

// P14.4: the minimal forbidden words of all kinds of graphs are those of the definition, and exactly the words without them are words of the graph.
func TestFind(t *testing.T) {
	for _, g := range graphs(21) {
		n := size(g.Labels)
		words := wordsOf(g, n)
		want := foundBy(g.Labels, words, n)
		for m := range n + 1 {
			upTo := slices.DeleteFunc(slices.Clone(want), func(w string) bool { return len(w) > m })
			if l := found(t, g, m); !slices.Equal(l, upTo) {
				t.Fatalf("P14.4: Find %v, %d: %q, not %q", g, m, l, upTo)
			}
		}
		if g.States == 0 || len(want) > 100 {
			continue
		}
		for _, w := range samples.StringsUpTo(letters[:g.Labels], n) {
			if words[w] != isAllowed(want, w) {
				t.Fatalf("P14.4: %q is a word of %v: %t, but the minimal forbidden words are %q", w, g, words[w], want)
			}
		}
	}
}

// P14.5: the minimal forbidden words of the graph of a list have a graph with the same words, unless there are none of these.
func TestBack(t *testing.T) {
	back := 0
	for _, c := range slices.Concat(every(2, 3), constraints(22)) {
		if len(statesOf(c.l)) > api.MaxState {
			continue
		}
		g := graphOf(t, c)
		l, e := forbidden.Find(g, forbidden.Longest(c.l))
		if g.States == 0 || e == api.ErrLimit || len(l) > api.MaxCode || len(statesOf(l)) > api.MaxState {
			continue
		}
		if !slices.Equal(reduced(t, constraint{c.q, l}), l) {
			t.Fatalf("P14.5: the minimal forbidden words of the graph of %q are not minimal: %q", c.l, l)
		}
		w, is, e := minimal.Equal(g, graphOf(t, constraint{c.q, l}))
		if e != api.ErrLimit && (e != api.OK || !is) {
			t.Fatalf("P14.5: %q and %q: %v, %t, %d", c.l, l, w, is, e)
		}
		if e == api.OK {
			back++
		}
	}
	if back < 5000 {
		t.Errorf("P14.5: only %d lists came back", back)
	}
}

// T5: the minimal forbidden words of a graph with infinitely many of them never give it back.
func TestNeverBack(t *testing.T) {
	var want []string
	for n := range 17 {
		if n > 2 && n%2 == 1 {
			want = append(want, "1"+strings.Repeat("0", n-2)+"1")
		}
		l := found(t, samples.Even(), n)
		if !slices.Equal(l, want) {
			t.Errorf("P14.1: Find the even shift, %d: %q", n, l)
		}
		if w, is, e := minimal.Equal(samples.Even(), graphOf(t, constraint{2, l})); e != api.OK || is {
			t.Errorf("T5: the even shift and %q: %v, %t, %d", l, w, is, e)
		}
	}
}

// P14.1: known minimal forbidden words, the chapter's examples among them.
func TestKnownWords(t *testing.T) {
	zeros := strings.Repeat("0", api.MaxLength)
	for _, c := range []struct {
		g    api.Graph
		n    int
		want []string
	}{
		{samples.Golden(), 0, nil}, {samples.Golden(), 1, nil}, {samples.Golden(), 2, []string{"11"}}, {samples.Golden(), 17, []string{"11"}}, {samples.Stairs(), api.MaxLength, []string{"10"}},
		{samples.Of(2, 0), api.MaxLength, nil}, {samples.Of(16, 0), 1, nil}, {samples.Of(2, 1), 0, nil}, {samples.Of(2, 1), 1, []string{"0", "1"}}, {samples.Of(3, 64), api.MaxLength, []string{"0", "1", "2"}},
		{samples.Of(2, 2, 0, 0, 1), 3, []string{"1", "00"}}, {samples.Of(2, 2, 0, 0, 1), 1, []string{"1"}}, {samples.Of(3, 3, 0, 0, 1, 1, 1, 2), 2, []string{"2", "00", "10", "11"}},
		{samples.Whole(1), api.MaxLength, nil}, {samples.Whole(2), 13, nil}, {samples.Whole(16), 4, nil}, {samples.With(samples.Of(16, 1), 0, 15, 0), 1, []string{"f"}},
		// A path of 31 edges has words of up to 31 letters.
		{samples.Line(1, api.MaxLength), api.MaxLength, []string{zeros}}, {samples.Line(1, api.MaxLength), api.MaxLength - 1, nil}, {samples.Line(1, api.MaxLength+1), api.MaxLength, nil}, {samples.Line(2, 3), api.MaxLength, []string{"1", "000"}},
		// The words are those of 01 without end.
		{samples.Of(2, 2, 0, 0, 1, 1, 1, 0), api.MaxLength, []string{"00", "11"}},
	} {
		if l := found(t, c.g, c.n); !slices.Equal(l, c.want) {
			t.Errorf("P14.1: Find %v, %d: %q, not %q", c.g, c.n, l, c.want)
		}
	}
}

// steps returns the path of n edges with each of some labels, for a graph with q labels.
func steps(q, labels, n int) api.Graph {
	var numbers []int
	for s := range n {
		for label := range labels {
			numbers = append(numbers, s, label, s+1)
		}
	}
	return samples.Of(q, n+1, numbers...)
}

// P14.1: as many minimal forbidden words as there may be, and one more; too many words of the graph with fewer letters, and just as many as there may be.
func TestFindLimits(t *testing.T) {
	for _, c := range []struct {
		q, labels, edges, n int
		number              int
		want                api.Errno
	}{
		// 4096 words of 3 letters are missing, of 6 letters, and of 12 letters.
		{16, 16, 2, 3, 4096, api.OK}, {16, 16, 2, 4, 4096, api.OK}, {4, 4, 5, 6, 4096, api.OK}, {4, 4, 5, api.MaxLength, 4096, api.OK}, {2, 2, 11, 12, 4096, api.OK},
		// One more, since the last letter is missing, too.
		{5, 4, 5, 6, 0, api.ErrLimit}, {5, 4, 5, 5, 1, api.OK}, {3, 2, 11, 12, 0, api.ErrLimit}, {5, 4, 5, api.MaxLength, 0, api.ErrLimit},
		// 4096 words of the graph are not too many, but 65536 are missing.
		{16, 16, 3, 3, 0, api.OK}, {16, 16, 3, 4, 0, api.ErrLimit},
		// 8192 words of 13 letters are too many only if longer ones are looked for.
		{2, 2, 20, 13, 0, api.OK}, {2, 2, 20, 14, 0, api.ErrLimit}, {2, 2, 20, api.MaxLength, 0, api.ErrLimit},
	} {
		t.Run(fmt.Sprint(c), func(t *testing.T) {
			l, e := forbidden.Find(steps(c.q, c.labels, c.edges), c.n)
			if e != c.want || len(l) != c.number {
				t.Errorf("P14.1: Find: %d words, %d", len(l), e)
			}
		})
	}
	for n, want := range map[int]api.Errno{17: api.OK, 18: api.ErrLimit, 32: api.ErrLimit} {
		if l, e := forbidden.Find(samples.Golden(), n); e != want || e != api.OK && len(l) > 0 {
			t.Errorf("P14.1: Find the words without 11, %d: %q, %d", n, l, e)
		}
	}
}
