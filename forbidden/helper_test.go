package forbidden_test

import (
	"cmp"
	"math/rand"
	"slices"
	"strings"
	"testing"

	"groove/api"
	"groove/forbidden"
	"groove/samples"
)

// letters are the letters by the document, in their order.
const letters = "0123456789abcdef"

// constraint is a list of forbidden words over q letters.
type constraint struct {
	q int
	l []string
}

// inOrder returns strings by their lengths, then lexicographically, each once.
func inOrder(l ...string) []string {
	l = slices.Clone(l)
	slices.SortFunc(l, func(v, w string) int { return cmp.Or(len(v)-len(w), strings.Compare(v, w)) })
	return slices.Compact(l)
}

// every returns all lists of forbidden words of up to n letters over q letters.
func every(q, n int) []constraint {
	var list []constraint
	words := samples.StringsUpTo(letters[:q], n)[1:]
	for bits := range 1 << len(words) {
		c := constraint{q: q}
		for i, w := range words {
			if bits>>i&1 == 1 {
				c.l = append(c.l, w)
			}
		}
		list = append(list, c)
	}
	return list
}

// random returns a list of up to some words of least to most letters over q letters.
func random(r *rand.Rand, q, words, least, most int) constraint {
	var l []string
	for range words {
		l = append(l, samples.String(r, letters[:q], least+r.Intn(most-least+1)))
	}
	return constraint{q, inOrder(l...)}
}

// dense returns a list of all words of n letters over q letters but for some.
func dense(r *rand.Rand, q, n int, kept float64) constraint {
	return constraint{q, slices.DeleteFunc(samples.Strings(letters[:q], n), func(string) bool { return r.Float64() < kept })}
}

// overlapping returns a list of words that begin or end alike, of some of which others are factors.
func overlapping(r *rand.Rand, q, words int) constraint {
	u := samples.String(r, letters[:q], 10)
	var l []string
	for range words {
		from, to := r.Intn(8), 3+r.Intn(8)
		if from < to {
			l = append(l, u[from:to]+samples.String(r, letters[:q], r.Intn(2)), samples.String(r, letters[:q], r.Intn(2))+u[from:to])
		}
	}
	return constraint{q, inOrder(l...)}
}

// constraints returns lists of all kinds: all small ones, known ones and random ones.
func constraints(seed int64) []constraint {
	r := rand.New(rand.NewSource(seed))
	list := slices.Concat(every(1, 3), every(2, 2), every(3, 1), every(16, 0))
	list = append(list, constraint{2, []string{"11", "0000"}}, constraint{2, []string{"010", "101"}}, constraint{2, []string{"11", "000", "101"}}, constraint{3, []string{"0", "12", "21"}}, constraint{16, []string{"f"}}, constraint{16, []string{"0", "ff", "fef"}})
	for i := range 200 {
		q := 1 + r.Intn(3)
		list = append(list, random(r, q, r.Intn(6), 1, 5), random(r, 2, r.Intn(6), 2, 7), random(r, 2, 1+r.Intn(3), 4, 9), overlapping(r, 1+r.Intn(3), 1+r.Intn(4)), dense(r, 2, 3+i%4, 0.7*r.Float64()), dense(r, 3, 2+i%2, r.Float64()))
	}
	for range 20 {
		list = append(list, random(r, 2, 3, 20, api.MaxLength), random(r, 16, 8, 1, 8), random(r, 16, api.MaxCode, 2, 3), random(r, 2, api.MaxCode, 6, 9))
	}
	return list
}

// isAllowed returns whether no word of l is a factor of w.
func isAllowed(l []string, w string) bool {
	return !slices.ContainsFunc(l, func(u string) bool { return strings.Contains(w, u) })
}

// minimalOf returns the minimal words of l, in order, by the definition.
func minimalOf(l []string) []string {
	return slices.DeleteFunc(inOrder(l...), func(w string) bool {
		return slices.ContainsFunc(l, func(u string) bool { return u != w && strings.Contains(w, u) })
	})
}

// statesOf returns the states of the graph of a list before its essential part is taken.
func statesOf(l []string) []string {
	list := []string{""}
	for _, w := range l {
		for n := range len(w) {
			list = append(list, w[:n])
		}
	}
	return slices.DeleteFunc(inOrder(list...), func(p string) bool { return !isAllowed(l, p) })
}

// size returns how many letters the words of a graph with q labels can have that are all looked at.
func size(q int) int {
	return []int{9, 7, 5, 4}[min(q-1, 3)] - min(q/8, 2)
}

// wordsOf returns the set of the words of g of up to n letters.
func wordsOf(g api.Graph, n int) map[string]bool {
	words := map[string]bool{}
	var extend func(w string, ends []int)
	extend = func(w string, ends []int) {
		if len(ends) == 0 {
			return
		}
		words[w] = true
		for label := range g.Labels {
			if len(w) < n {
				extend(w+letters[label:label+1], samples.Step(g, ends, label))
			}
		}
	}
	extend("", samples.All(g))
	return words
}

// reduced returns the minimal words of a list that has no error.
func reduced(t *testing.T, c constraint) []string {
	t.Helper()
	l, e := forbidden.Reduce(c.q, c.l)
	if e != api.OK {
		t.Fatalf("P14.1: Reduce %d, %q: %d", c.q, c.l, e)
	}
	return l
}

// allowed returns whether a word is allowed by a list, if neither has an error.
func allowed(t *testing.T, c constraint, w string) bool {
	t.Helper()
	is, e := forbidden.Allowed(c.q, c.l, w)
	if e != api.OK {
		t.Fatalf("P14.1: Allowed %d, %q, %q: %d", c.q, c.l, short(w), e)
	}
	return is
}

// graphOf returns the graph of a list that has no error.
func graphOf(t *testing.T, c constraint) api.Graph {
	t.Helper()
	g, e := forbidden.Graph(c.q, c.l)
	if e != api.OK {
		t.Fatalf("P14.1: Graph %d, %q: %d", c.q, c.l, e)
	}
	return g
}

// found returns the minimal forbidden words of up to n letters of a graph, for which there is no error.
func found(t *testing.T, g api.Graph, n int) []string {
	t.Helper()
	l, e := forbidden.Find(g, n)
	if e != api.OK {
		t.Fatalf("P14.1: Find %v, %d: %d", g, n, e)
	}
	return l
}

// short returns the beginning of a long word for a message.
func short(w string) string { return w[:min(len(w), 40)] }
