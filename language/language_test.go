package language_test

import (
	"math/rand"
	"slices"
	"strings"
	"testing"

	"groove/api"
	"groove/language"
	"groove/samples"
)

// P11.1: the examples of the chapter.
func TestExamples(t *testing.T) {
	g := samples.Golden()
	if list := wordsOf(t, g, 2); !slices.Equal(list, []string{"00", "01", "10"}) {
		t.Errorf("P11.3: Words: %v", list)
	}
	if w, is, e := language.Missing(g, 2); w != "11" || !is || e != api.OK {
		t.Errorf("P11.7: Missing: %q, %t, %d", w, is, e)
	}
	if path, e := language.Path(g, "010"); e != api.OK || !slices.Equal(path, []int{0, 1, 2}) {
		t.Errorf("P11.6: Path: %v, %d", path, e)
	}
}

// P11.1, P11.2, P11.5: words, ends and letters of all words of a few letters, for graphs of all kinds, against the definitions.
func TestDefinitions(t *testing.T) {
	r := rand.New(rand.NewSource(31))
	for _, g := range graphs(32) {
		words := samples.StringsUpTo(letters[:g.Labels], depth(g))
		tables := tablesOf(g, words)
		for _, w := range words {
			if is := accepts(t, g, w); is != tables[w].isWord() {
				t.Fatalf("P11.1: Accepts %v, %q: %t", g, w, is)
			}
			sets := [][]int{nil, samples.All(g), randomSet(r, g)}
			if g.States > 0 {
				sets = append(sets, []int{0}, []int{g.States - 1})
			}
			for _, set := range sets {
				want := slices.DeleteFunc(samples.All(g), func(u int) bool {
					return !slices.ContainsFunc(set, func(s int) bool { return tables[w].has(s, u) })
				})
				if ends := endsOf(t, g, set, w); !slices.Equal(ends, want) {
					t.Fatalf("P11.2: Ends %v, %v, %q: %v, not %v", g, set, w, ends, want)
				}
			}
			if len(w) == depth(g) {
				continue
			}
			var want string
			for _, letter := range letters[:g.Labels] {
				if tables[w+string(letter)].isWord() {
					want += string(letter)
				}
			}
			if following := lettersOf(t, g, w); following != want {
				t.Fatalf("P11.5: Letters %v, %q: %q, not %q", g, w, following, want)
			}
		}
	}
}

// P11.2, P11.5: known ends and letters: without states and edges, of words that end in several states, with labels that no edge has, and with 16 labels.
func TestKnownEnds(t *testing.T) {
	several := samples.Of(3, 5, 0, 0, 1, 0, 0, 3, 0, 1, 0, 1, 0, 4, 3, 0, 3, 3, 0, 4, 3, 1, 2, 4, 1, 4)
	hex := samples.Of(16, 3, 0, 10, 1, 0, 15, 2, 1, 0, 2, 1, 9, 0, 2, 15, 2)
	first, last := samples.Of(2, 64, 0, 0, 63, 63, 1, 0), []int{63}
	for i, c := range []struct {
		g         api.Graph
		set       []int
		w         string
		ends      []int
		is        bool
		following string
	}{
		{samples.Of(2, 0), nil, "", nil, false, ""}, {samples.Of(2, 0), nil, "0", nil, false, ""}, {samples.Of(2, 0), nil, "0110", nil, false, ""}, {samples.Of(16, 0), nil, "f", nil, false, ""},
		{samples.Of(2, 1), nil, "", nil, true, ""}, {samples.Of(2, 1), []int{0}, "", []int{0}, true, ""}, {samples.Of(2, 1), []int{0}, "0", nil, false, ""}, {samples.Of(2, 64), samples.All(samples.Of(2, 64)), "", samples.All(samples.Of(2, 64)), true, ""}, {samples.Of(2, 64), last, "1", nil, false, ""},
		{several, []int{0}, "", []int{0}, true, "01"}, {several, []int{0}, "0", []int{1, 3}, true, "01"}, {several, []int{0}, "00", []int{3, 4}, true, "01"}, {several, []int{0}, "01", []int{2}, true, "1"}, {several, []int{0}, "10", []int{1, 3}, true, "01"}, {several, []int{0}, "001", []int{2, 4}, true, "1"}, {several, []int{0}, "011", nil, true, "1"}, {several, []int{3, 4}, "011", []int{4}, true, "1"}, {several, []int{1}, "0", []int{4}, true, "01"}, {several, []int{2}, "0", nil, true, "01"}, {several, []int{1, 2, 4}, "01", []int{4}, true, "1"}, {several, []int{1, 2}, "00", nil, true, "01"}, {several, samples.All(several), "1", []int{0, 2, 4}, true, "01"}, {several, samples.All(several), "110", []int{1, 3}, true, "01"}, {several, samples.All(several), "1101101", nil, false, ""}, {several, nil, "0", nil, true, "01"},
		{several, samples.All(several), "2", nil, false, ""}, {several, samples.All(several), "02", nil, false, ""}, {several, samples.All(several), "20", nil, false, ""},
		{hex, []int{0, 1, 2}, "", []int{0, 1, 2}, true, "09af"}, {hex, []int{0}, "a", []int{1}, true, "09"}, {hex, []int{0, 1, 2}, "f", []int{2}, true, "f"}, {hex, []int{0, 1}, "9", []int{0}, true, "af"}, {hex, []int{0}, "a0ffff", []int{2}, true, "f"}, {hex, []int{0}, "a9a9a9", []int{0}, true, "af"}, {hex, []int{0}, "b", nil, false, ""}, {hex, []int{0}, "f0", nil, false, ""}, {full(16), []int{0}, letters, []int{0}, true, letters},
		{first, []int{0, 5}, "0", last, true, "1"}, {first, []int{0}, "01", []int{0}, true, "0"}, {first, last, "1", []int{0}, true, "0"}, {first, []int{1, 62}, "0", nil, true, "1"}, {first, last, strings.Repeat("10", 500), last, true, "1"},
	} {
		if is := accepts(t, c.g, c.w); is != c.is {
			t.Errorf("P11.1: case %d: Accepts %q: %t", i, c.w, is)
		}
		if ends := endsOf(t, c.g, c.set, c.w); !slices.Equal(ends, c.ends) {
			t.Errorf("P11.2: case %d: Ends %v, %q: %v", i, c.set, c.w, ends)
		}
		if following := lettersOf(t, c.g, c.w); following != c.following {
			t.Errorf("P11.5: case %d: Letters %q: %q", i, c.w, following)
		}
	}
}

// P11.2: every factor of a word of a graph is one; a word is one exactly if some of its paths end somewhere; ends are those of the second part, from the ends of the first part.
func TestFactors(t *testing.T) {
	r := rand.New(rand.NewSource(33))
	is, not := 0, 0
	for _, g := range graphs(34) {
		for range 5 {
			w := walk(r, g, r.Intn(40))
			// Letters that are replaced can make a word that is none.
			for range r.Intn(len(w) + 1) {
				i := r.Intn(len(w))
				w = w[:i] + letters[:g.Labels][r.Intn(g.Labels):][:1] + w[i+1:]
			}
			ends := endsOf(t, g, samples.All(g), w)
			if accepts(t, g, w) != (len(ends) > 0) {
				t.Fatalf("P11.2: Ends %v, %q: %v", g, w, ends)
			}
			i := r.Intn(len(w) + 1)
			for _, set := range [][]int{samples.All(g), randomSet(r, g)} {
				if a, b := endsOf(t, g, set, w), endsOf(t, g, endsOf(t, g, set, w[:i]), w[i:]); !slices.Equal(a, b) {
					t.Fatalf("P11.2: Ends %v, %v, %q: %v, in two parts %v", g, set, w, a, b)
				}
			}
			if len(ends) == 0 {
				not++
				continue
			}
			is++
			if j := i + r.Intn(len(w)-i+1); !accepts(t, g, w[i:j]) {
				t.Fatalf("P11.2: Accepts %v, %q, a factor of %q: false", g, w[i:j], w)
			}
		}
	}
	if is < 1000 || not < 500 {
		t.Errorf("P11.2: %d words of graphs, %d others", is, not)
	}
}

// walk returns the word of a path of at most n edges.
func walk(r *rand.Rand, g api.Graph, n int) string {
	if g.States == 0 {
		return ""
	}
	var w strings.Builder
	s := r.Intn(g.States)
	for range n {
		leaving := slices.DeleteFunc(slices.Clone(g.Edges), func(edge api.Edge) bool { return edge.From != s })
		if len(leaving) == 0 {
			break
		}
		edge := leaving[r.Intn(len(leaving))]
		w.WriteByte(letters[edge.Label])
		s = edge.To
	}
	return w.String()
}

// P11.1: words of as many letters as there can be, one of which changes everything.
func TestLongWords(t *testing.T) {
	long := strings.Repeat("010", api.MaxWord/3) + "0"
	for _, c := range []struct {
		g         api.Graph
		w         string
		is        bool
		following string
	}{
		{samples.Golden(), long, true, "01"}, {samples.Golden(), long[1:] + "1", true, "0"}, {samples.Golden(), "11" + long[2:], false, ""}, {samples.Golden(), long[2:] + "11", false, ""}, {samples.Golden(), long[:30000] + "11" + long[30002:], false, ""}, {full(2), long, true, "01"}, {full(1), strings.Repeat("0", api.MaxWord), true, "0"}, {chain(2, 64, false), long, false, ""}, {chain(2, 64, true), long, true, "01"}, {full(16), strings.Repeat(letters, api.MaxWord/16), true, letters},
	} {
		if len(c.w) != api.MaxWord {
			t.Fatalf("%d letters", len(c.w))
		}
		if is := accepts(t, c.g, c.w); is != c.is {
			t.Errorf("P11.1: Accepts %v, %q..: %t", c.g, short(c.w), is)
		}
		if following := lettersOf(t, c.g, c.w); following != c.following {
			t.Errorf("P11.5: Letters %v, %q..: %q", c.g, short(c.w), following)
		}
		if ends := endsOf(t, c.g, samples.All(c.g), c.w); (len(ends) > 0) != c.is {
			t.Errorf("P11.2: Ends %v, %q..: %v", c.g, short(c.w), ends)
		}
		if path, e := language.Path(c.g, c.w); (e == api.OK) != c.is || c.is && !isPath(c.g, c.w, path) {
			t.Errorf("P11.6: Path %v, %q..: %d edges, %d", c.g, short(c.w), len(path), e)
		}
	}
}
