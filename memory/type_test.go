package memory_test

import (
	"math/rand"
	"slices"
	"testing"

	"groove/api"
	"groove/component"
	"groove/forbidden"
	"groove/graph"
	"groove/memory"
	"groove/minimal"
	"groove/samples"
	"groove/subset"
)

// irreducible returns irreducible graphs of which there are not too many sets of states.
func irreducible(seed int64) []api.Graph {
	r := rand.New(rand.NewSource(seed))
	var list []api.Graph
	for _, g := range slices.Concat(tiny(), samples.Small(r), samples.Large(r), []api.Graph{samples.Cycles(64), samples.Grid(16, 64), long(3), long(9)}, restricted(r)) {
		if is, _ := component.Irreducible(g); is {
			if _, _, e := subset.Build(g); e == api.OK {
				list = append(list, g)
			}
		}
	}
	return list
}

// restricted returns the cyclic components of graphs of forbidden words.
func restricted(r *rand.Rand) []api.Graph {
	var list []api.Graph
	for range 200 {
		var words []string
		for range 1 + r.Intn(4) {
			words = append(words, samples.String(r, "01", 2+r.Intn(4)))
		}
		words, _ = forbidden.Reduce(2, words)
		g, _ := forbidden.Graph(2, words)
		parts, _ := component.Cyclic(g)
		for _, states := range parts {
			part, _ := graph.Keep(g, states)
			list = append(list, part)
		}
	}
	return list
}

// long returns the graph whose words have no n letters 0 in a row.
func long(n int) api.Graph {
	g := samples.Line(2, n)
	for s := range n {
		g.Edges = append(g.Edges, api.Edge{From: s, Label: 1, To: 0})
	}
	return samples.Made(2, n, g.Edges)
}

// canJoin returns whether uvw is a word of g for any words uv and vw of g, where v has n letters: behind v, all words that are read from any states are read also from those to which uv leads.
func canJoin(g api.Graph, n int) bool {
	_, sets, _ := subset.Build(g)
	for _, v := range overlaps(g, n) {
		for _, behind := range sets {
			some := samples.Ends(g, behind, v)
			if len(some) > 0 && !reads(g, samples.Ends(g, samples.All(g), v), some) {
				return false
			}
		}
	}
	return true
}

// overlaps returns lists of n labels, of which one leads from each state to the same states as any word of n letters.
func overlaps(g api.Graph, n int) [][]int {
	lists := [][]int{nil}
	for range n {
		known := map[string]bool{}
		var longer [][]int
		for _, l := range lists {
			for label := range g.Labels {
				more := append(slices.Clone(l), label)
				var key string
				for s := range g.States {
					key += samples.Key(samples.Ends(g, []int{s}, more)) + "\xff"
				}
				if !known[key] {
					known[key] = true
					longer = append(longer, more)
				}
			}
		}
		lists = longer
	}
	return lists
}

// reads returns whether all words that can be read from some states can be read from other ones.
func reads(g api.Graph, some, others []int) bool {
	type both struct{ some, others []int }
	queue := []both{{some, others}}
	known := map[[2]string]bool{}
	for i := 0; i < len(queue); i++ {
		if len(queue[i].some) > 0 && len(queue[i].others) == 0 {
			return false
		}
		for label := range g.Labels {
			next := both{samples.Step(g, queue[i].some, label), samples.Step(g, queue[i].others, label)}
			if key := [2]string{samples.Key(next.some), samples.Key(next.others)}; !known[key] {
				known[key] = true
				queue = append(queue, next)
			}
		}
	}
	return true
}

// P15.5: with as many letters as the type words can be joined; with fewer letters some cannot, nor can they with any number if there is no type.
func TestJoining(t *testing.T) {
	met := map[int]int{}
	for _, g := range irreducible(1) {
		if g.Labels > 3 || g.States > 10 {
			continue
		}
		k, is := typeOf(t, g)
		if !is {
			met[-1]++
			for n := range 5 {
				if canJoin(g, n) {
					t.Fatalf("P15.5: Type %v: none, but words that overlap in %d letters can be joined", g, n)
				}
			}
			continue
		}
		met[k]++
		for n := range k {
			if canJoin(g, n) {
				t.Fatalf("P15.5: Type %v: %d, but words that overlap in %d letters can be joined", g, k, n)
			}
		}
		for n := k; n < k+2; n++ {
			if !canJoin(g, n) {
				t.Fatalf("P15.5: Type %v: %d, but words that overlap in %d letters cannot be joined", g, k, n)
			}
		}
	}
	if met[-1] < 50 || met[0] < 50 || met[1] < 50 || met[2] < 20 || met[3] < 20 || len(met) < 6 {
		t.Errorf("P15.5: the graphs are too easy: %v", met)
	}
}

// P15.5: words that overlap, letter by letter: those of a few letters.
func TestJoinedWords(t *testing.T) {
	for _, g := range irreducible(2) {
		k, is := typeOf(t, g)
		if !is || k > 3 || g.Labels > 2 || g.States > 4 {
			continue
		}
		word := func(parts ...[]int) bool {
			return len(samples.Ends(g, samples.All(g), slices.Concat(parts...))) > 0
		}
		for _, v := range samples.Lists(2, k) {
			for _, u := range samples.Lists(2, 2) {
				for _, w := range samples.Lists(2, 2) {
					if word(u, v) && word(v, w) && !word(u, v, w) {
						t.Fatalf("P15.5: Type %v: %d, but %v, %v, %v cannot be joined", g, k, u, v, w)
					}
				}
			}
		}
	}
}

// T5: the minimal forbidden words of a constraint of finite type have at most one letter more than the type, one of them as many unless it is 0, and they give it back; of another one they never do.
func TestForbiddenWords(t *testing.T) {
	met := map[bool]int{}
	for _, g := range irreducible(3) {
		k, is := typeOf(t, g)
		if g.Labels > 3 || g.States > 10 || k > 8 {
			continue
		}
		n := k + 3
		if !is {
			n = 6
		}
		words, e := forbidden.Find(g, n)
		if e != api.OK {
			t.Fatalf("T5: Find %v, %d: %d", g, n, e)
		}
		if longest := forbidden.Longest(words); is && (longest > k+1 || k > 0 && longest < k+1) {
			t.Fatalf("T5: Type %v: %d, but the minimal forbidden words are %q", g, k, words)
		}
		back, e := forbidden.Graph(g.Labels, words)
		if e != api.OK {
			continue
		}
		if _, same, e := minimal.Equal(g, back); e == api.OK {
			met[is]++
			if same != is {
				t.Fatalf("T5: Type %v: %d, %t, but its forbidden words %q give it back: %t", g, k, is, words, same)
			}
		}
	}
	if met[true] < 200 || met[false] < 50 {
		t.Errorf("T5: only few lists of forbidden words: %v", met)
	}
}

// P15.5: the type is the memory of the cover, and so does not depend on the graph that has the words.
func TestCovers(t *testing.T) {
	for _, g := range irreducible(4) {
		cover, e := minimal.Cover(g)
		if e != api.OK {
			t.Fatalf("P15.5: Cover %v: %d", g, e)
		}
		k, is := typeOf(t, g)
		if want, there := memoryBy(cover); k != want || is != there {
			t.Fatalf("P15.5: Type %v: %d, %t, but the memory of the cover is %d, %t", g, k, is, want, there)
		}
		m, finite := memoryOf(t, g)
		if finite && (!is || k > m) {
			t.Fatalf("P15.5: Type %v: %d, %t, but the memory is %d", g, k, is, m)
		}
		// The reversed words can be joined if these can.
		back := reversed(g)
		if _, _, e := subset.Build(back); e != api.OK {
			continue
		}
		if other, there := typeOf(t, back); other != k || there != is {
			t.Fatalf("P15.5: Type %v: %d, %t, but of the reversed graph %d, %t", g, k, is, other, there)
		}
	}
}

// P15.5: known types; the graph need be neither deterministic nor merged.
func TestKnownTypes(t *testing.T) {
	for _, c := range []struct {
		g  api.Graph
		k  int
		is bool
	}{
		{samples.Golden(), 1, true}, {reversed(samples.Golden()), 1, true}, {samples.Even(), 0, false}, {reversed(samples.Even()), 0, false},
		{samples.Whole(1), 0, true}, {samples.Whole(256), 0, true}, {samples.Of(256, 1, 0, 255, 0), 0, true},
		// The words with equal letters only, those of both letters in turn, and those of three.
		{samples.Cycles(64), 0, true}, {samples.Of(2, 2, 0, 0, 1, 1, 1, 0), 1, true}, {samples.Of(3, 3, 0, 0, 1, 1, 1, 2, 2, 2, 0), 1, true}, {samples.Of(2, 3, 0, 0, 1, 1, 0, 2, 2, 1, 0), 2, true}, {samples.Of(2, 4, 0, 0, 1, 1, 0, 2, 2, 0, 3, 3, 1, 0), 3, true},
		{samples.Grid(16, 64), 0, true}, {long(1), 0, true}, {long(2), 1, true}, {long(3), 2, true}, {long(32), 31, true},
		// All words over two letters, with paths that never tell the state.
		{samples.Of(2, 2, 0, 0, 0, 0, 0, 1, 0, 1, 0, 0, 1, 1, 1, 0, 0, 1, 0, 1, 1, 1, 0, 1, 1, 1), 0, true}, {samples.Of(2, 2, 0, 0, 1, 0, 1, 1, 1, 0, 0, 1, 1, 0), 0, true},
		// Behind a letter 1 an even, or any, number of letters 0.
		{samples.Of(3, 3, 0, 0, 1, 1, 0, 0, 0, 1, 0, 0, 2, 2, 2, 0, 2, 2, 1, 0), 0, false},
	} {
		if k, is := typeOf(t, c.g); k != c.k || is != c.is {
			t.Errorf("P15.5: Type %v: %d, %t, not %d, %t", c.g, k, is, c.k, c.is)
		}
	}
}

// P15.6: paths with few labels, by the definition, and what is reached step by step.
func TestFollow(t *testing.T) {
	r := rand.New(rand.NewSource(5))
	for _, g := range slices.Concat(tiny(), samples.Small(r)) {
		for n := range 4 {
			ends := map[string][]int{"": samples.All(g)}
			if n > 0 {
				ends = map[string][]int{}
				paths(g, n, func(path, labels []int) {
					ends[samples.Key(labels)] = append(ends[samples.Key(labels)], g.Edges[path[n-1]].To)
				})
			}
			for _, labels := range samples.Lists(g.Labels, n) {
				want := ends[samples.Key(labels)]
				slices.Sort(want)
				if set := followOf(t, g, labels); !slices.Equal(set, slices.Compact(want)) {
					t.Fatalf("P15.6: Follow %v, %v: %v, not %v", g, labels, set, want)
				}
			}
		}
	}
	for _, g := range slices.Concat(samples.Small(r), samples.Large(r)) {
		var labels []int
		set := samples.All(g)
		for range 12 {
			if got := followOf(t, g, labels); !slices.Equal(got, set) {
				t.Fatalf("P15.6: Follow %v, %v: %v, not %v", g, labels, got, set)
			}
			label := r.Intn(g.Labels)
			if len(g.Edges) > 0 && r.Intn(4) > 0 {
				label = g.Edges[r.Intn(len(g.Edges))].Label
			}
			labels, set = append(labels, label), samples.Step(g, set, label)
		}
	}
}

// P15.6: lists with as many labels as there may be, states that are lost, and labels that no edge has.
func TestKnownEnds(t *testing.T) {
	many := slices.Repeat([]int{0}, api.MaxWord)
	last := append(slices.Repeat([]int{0}, api.MaxWord-1), 255)
	for _, c := range []struct {
		g      api.Graph
		labels []int
		want   []int
	}{
		{samples.Golden(), []int{0, 1}, []int{1}}, {samples.Golden(), []int{1, 1}, nil}, {samples.Golden(), []int{1, 1, 0}, nil}, {samples.Even(), []int{0, 0, 0}, []int{0, 1}}, {samples.Even(), []int{1, 0}, []int{1}},
		{samples.Of(2, 0), nil, nil}, {samples.Of(2, 0), []int{1, 0}, nil}, {samples.Of(256, 64), nil, samples.All(samples.Of(1, 64))}, {samples.Of(256, 64), []int{255}, nil},
		{samples.Golden(), many, []int{0}}, {samples.Cycles(64), many, samples.All(samples.Of(1, 64))}, {samples.Whole(256), last, []int{0}}, {samples.Of(256, 64, 63, 0, 63, 63, 255, 0, 63, 255, 63), last, []int{0, 63}},
		{samples.Line(1, 64), many[:63], []int{63}}, {samples.Line(1, 64), many[:64], nil}, {samples.Line(1, 64), many, nil},
	} {
		if set := followOf(t, c.g, c.labels); !slices.Equal(set, c.want) {
			t.Errorf("P15.6: Follow %v: %v, not %v", c.g, set, c.want)
		}
	}
}

// P15.6: a list that is put together leads where its second part leads from where the first one ends.
func TestFollowOn(t *testing.T) {
	r := rand.New(rand.NewSource(6))
	for _, g := range slices.Concat(small(7), large(8)) {
		var first, second []int
		for range r.Intn(4) {
			first = append(first, r.Intn(g.Labels))
		}
		for range r.Intn(4) {
			second = append(second, r.Intn(g.Labels))
		}
		all, e := memory.Follow(g, slices.Concat(first, second))
		if want := samples.Ends(g, followOf(t, g, first), second); e != api.OK || !slices.Equal(all, want) {
			t.Fatalf("P15.6: Follow %v, %v and %v: %v, %d, not %v", g, first, second, all, e, want)
		}
	}
}
