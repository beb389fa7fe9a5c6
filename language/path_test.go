package language_test

import (
	"math/rand"
	"slices"
	"strings"
	"testing"

	"groove/api"
	"groove/language"
	"groove/samples"
)

// isPath returns whether a list of indices of edges is a path labelled w.
func isPath(g api.Graph, w string, list []int) bool {
	if len(list) != len(w) {
		return false
	}
	for i, index := range list {
		if index < 0 || index >= len(g.Edges) || letters[g.Edges[index].Label] != w[i] || i > 0 && g.Edges[list[i-1]].To != g.Edges[index].From {
			return false
		}
	}
	return true
}

// leastPath returns the first path labelled w that is found when edges are tried in their order, from any state or, if s is not below 0, from s on, and whether there is one. What has failed is remembered: the state and how much of w was left.
func leastPath(g api.Graph, w string, s int, failed map[[2]int]bool) ([]int, bool) {
	if w == "" {
		return nil, g.States > 0
	}
	if failed[[2]int{s, len(w)}] {
		return nil, false
	}
	for i, edge := range g.Edges {
		if letters[edge.Label] != w[0] || s >= 0 && edge.From != s {
			continue
		}
		if rest, is := leastPath(g, w[1:], edge.To, failed); is {
			return append([]int{i}, rest...), true
		}
	}
	failed[[2]int{s, len(w)}] = true
	return nil, false
}

// checkPath checks the path of a word, against a search for the least one.
func checkPath(t *testing.T, g api.Graph, w string) bool {
	t.Helper()
	want, is := leastPath(g, w, -1, map[[2]int]bool{})
	path, e := language.Path(g, w)
	if !is {
		if e != api.ErrWord || len(path) > 0 {
			t.Fatalf("P11.6: Path %v, %q: %v, %d", g, w, path, e)
		}
		return false
	}
	if e != api.OK || !isPath(g, w, path) || !slices.Equal(path, want) {
		t.Fatalf("P11.6: Path %v, %q: %v, %d, not %v", g, w, path, e, want)
	}
	return true
}

// P11.6: the paths of all words of a few letters, and of some longer ones, for graphs of all kinds.
func TestPaths(t *testing.T) {
	r := rand.New(rand.NewSource(51))
	long := 0
	for _, g := range graphs(52) {
		for _, w := range samples.StringsUpTo(letters[:g.Labels], depth(g)) {
			checkPath(t, g, w)
		}
		for range 5 {
			if w := walk(r, g, 200); checkPath(t, g, w) && len(w) == 200 {
				long++
			}
		}
	}
	if long < 500 {
		t.Errorf("P11.6: %d long paths", long)
	}
}

// P11.6: among all lists of edges of small graphs, the path that is returned is the least one that is a path labelled with the word.
func TestAllLists(t *testing.T) {
	several := 0
	for _, g := range samples.Subgraphs(2, 2) {
		if len(g.Edges) > 5 {
			continue
		}
		lists := [][]int{nil}
		for range 3 {
			var longer [][]int
			for _, list := range lists {
				for i := range g.Edges {
					longer = append(longer, append(slices.Clone(list), i))
				}
			}
			lists = longer
			number := map[string]int{}
			for _, list := range lists {
				var w strings.Builder
				for _, i := range list {
					w.WriteByte(letters[g.Edges[i].Label])
				}
				if !isPath(g, w.String(), list) {
					continue
				}
				number[w.String()]++
				if number[w.String()] > 1 {
					several++
					continue
				}
				if path, e := language.Path(g, w.String()); e != api.OK || !slices.Equal(path, list) {
					t.Fatalf("P11.6: Path %v, %q: %v, %d, not %v", g, w.String(), path, e, list)
				}
			}
		}
	}
	if several < 1000 {
		t.Errorf("P11.6: %d further paths", several)
	}
}

// P11.6: known paths: of no edges, in graphs without states and edges, where the first edge, or one within, has to be a later one because of the last letter, and where the least edge leaves a later state.
func TestKnownPaths(t *testing.T) {
	choice := samples.Of(3, 4, 0, 0, 1, 0, 0, 2, 1, 0, 0, 2, 0, 0, 2, 1, 3, 3, 0, 3)
	twice := samples.Of(2, 2, 0, 0, 0, 1, 0, 1, 1, 1, 1)
	stay := samples.Of(2, 2, 0, 0, 0, 0, 0, 1, 1, 1, 1)
	zeros := func(n int) []int { return make([]int, n) }
	long := strings.Repeat("0", api.MaxWord-1) + "1"
	for i, c := range []struct {
		g    api.Graph
		w    string
		want []int
		e    api.Errno
	}{
		{samples.Of(2, 0), "", nil, api.ErrWord}, {samples.Of(2, 0), "0", nil, api.ErrWord}, {samples.Of(2, 1), "", nil, api.OK}, {samples.Of(2, 1), "1", nil, api.ErrWord}, {samples.Golden(), "", nil, api.OK}, {samples.Golden(), "11", nil, api.ErrWord}, {samples.Golden(), "0110", nil, api.ErrWord}, {samples.Golden(), "0101001", []int{0, 1, 2, 1, 2, 0, 1}, api.OK},
		{choice, "0", []int{0}, api.OK}, {choice, "1", []int{4}, api.OK}, {choice, "01", []int{1, 4}, api.OK}, {choice, "00", []int{0, 2}, api.OK}, {choice, "000", []int{0, 2, 0}, api.OK}, {choice, "001", []int{2, 1, 4}, api.OK}, {choice, "0001", []int{0, 2, 1, 4}, api.OK}, {choice, "10", []int{4, 5}, api.OK}, {choice, "010", []int{1, 4, 5}, api.OK}, {choice, "2", nil, api.ErrWord}, {choice, "0101", nil, api.ErrWord},
		{twice, "0", []int{0}, api.OK}, {twice, "1", []int{2}, api.OK}, {twice, "01", []int{1, 2}, api.OK}, {twice, "10", []int{2, 1}, api.OK}, {stay, "01", []int{1, 2}, api.OK}, {stay, "0001", []int{0, 0, 1, 2}, api.OK}, {stay, "00011", []int{0, 0, 1, 2, 2}, api.OK}, {stay, "10", nil, api.ErrWord},
		{twice, long, append(slices.Repeat([]int{1}, len(long)-1), 2), api.OK}, {stay, long, append(zeros(len(long)-2), 1, 2), api.OK}, {stay, strings.Repeat("0", len(long)), zeros(len(long)), api.OK}, {twice, strings.Repeat("0", len(long)), zeros(len(long)), api.OK}, {stay, long[:len(long)-2] + "10", nil, api.ErrWord},
		{full(16), letters, []int{0, 1, 2, 3, 4, 5, 6, 7, 8, 9, 10, 11, 12, 13, 14, 15}, api.OK}, {chain(2, 64, false), "101", []int{1, 2, 5}, api.OK}, {chain(2, 64, false), long[:64], nil, api.ErrWord}, {samples.Of(1, 64, 63, 0, 63), "000", zeros(3), api.OK}, {samples.Of(2, 64, 0, 0, 5, 5, 1, 63, 62, 0, 0, 63, 1, 62), "1100", []int{1, 3, 2, 0}, api.OK},
	} {
		if path, e := language.Path(c.g, c.w); e != c.e || !slices.Equal(path, c.want) {
			t.Errorf("P11.6: case %d: Path %q: %v.., %d", i, short(c.w), path[:min(len(path), 40)], e)
		}
	}
}
