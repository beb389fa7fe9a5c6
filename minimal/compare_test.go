package minimal_test

import (
	"cmp"
	"math/rand"
	"slices"
	"testing"

	"groove/api"
	"groove/language"
	"groove/minimal"
	"groove/samples"
	"groove/subset"
)

// ends is a word, and where its paths in two graphs end.
type ends struct{ word, first, second []int }

// firstOf returns the first word for which a function returns true that is told whether it is one of g and of h, and whether there is one: words are followed in their order, as long as they end in other states than all before.
func firstOf(g, h api.Graph, is func(first, second bool) bool) ([]int, bool) {
	queue := []ends{{nil, samples.All(g), samples.All(h)}}
	known := map[[2]string]bool{}
	for i := 0; i < len(queue); i++ {
		w := queue[i]
		if is(len(w.first) > 0, len(w.second) > 0) {
			return w.word, true
		}
		for label := range max(g.Labels, h.Labels) {
			longer := ends{append(slices.Clone(w.word), label), samples.Step(g, w.first, label), samples.Step(h, w.second, label)}
			if key := [2]string{samples.Key(longer.first), samples.Key(longer.second)}; !known[key] {
				known[key] = true
				queue = append(queue, longer)
			}
		}
	}
	return nil, false
}

// isWord returns whether a list of labels is a word of g.
func isWord(g api.Graph, word []int) bool { return len(samples.Ends(g, samples.All(g), word)) > 0 }

// checkIncluded checks what Included says of two graphs, and returns it.
func checkIncluded(t *testing.T, g, h api.Graph) ([]int, bool) {
	t.Helper()
	word, is := includedOf(t, g, h)
	want, lacks := firstOf(g, h, func(first, second bool) bool { return first && !second })
	if is == lacks || !slices.Equal(word, want) {
		t.Fatalf("P13.5: Included %v, %v: %v, %t, not %v, %t", g, h, word, is, want, !lacks)
	}
	if !is && (!isWord(g, word) || isWord(h, word)) {
		t.Fatalf("P13.5: Included %v, %v: %v, which is one of the second one, or not of the first one", g, h, word)
	}
	return word, is
}

// checkPair checks what Included and Equal say of two graphs.
func checkPair(t *testing.T, g, h api.Graph) {
	t.Helper()
	first, within := checkIncluded(t, g, h)
	second, without := checkIncluded(t, h, g)
	word, is := equalOf(t, g, h)
	if is != (within && without) {
		t.Fatalf("P13.6: Equal %v, %v: %t, but Included: %t, %t", g, h, is, within, without)
	}
	var want []int
	switch {
	case !within && !without:
		want = slices.MinFunc([][]int{first, second}, compareWords)
	case !within:
		want = first
	case !without:
		want = second
	}
	if !slices.Equal(word, want) {
		t.Fatalf("P13.6: Equal %v, %v: %v, not %v", g, h, word, want)
	}
}

// compareWords compares words by length, then lexicographically.
func compareWords(a, b []int) int {
	return cmp.Or(cmp.Compare(len(a), len(b)), slices.Compare(a, b))
}

// isWithin returns whether there are not too many sets of g.
func isWithin(g api.Graph) bool {
	_, is := setsOf(g)
	return is
}

// pairs returns pairs of graphs: any small ones, and such as have mostly the same words, among them those with further labels, edges and states.
func pairs(seed int64) [][2]api.Graph {
	r := rand.New(rand.NewSource(seed))
	graphs := slices.Concat(samples.Small(r), samples.Subgraphs(2, 2))
	var list [][2]api.Graph
	for _, g := range graphs {
		list = append(list, [2]api.Graph{g, graphs[r.Intn(len(graphs))]}, [2]api.Graph{g, g}, [2]api.Graph{g, samples.Made(g.Labels+r.Intn(3), g.States, g.Edges)})
		if sets, _ := setsOf(g); isWithin(sets) {
			list = append(list, [2]api.Graph{g, sets})
		}
		if g.States == 0 {
			continue
		}
		list = append(list, [2]api.Graph{g, samples.Made(g.Labels, g.States+1, g.Edges)}, [2]api.Graph{g, samples.Beside(g, g)})
		for range 2 {
			further := api.Edge{From: r.Intn(g.States), Label: r.Intn(g.Labels + 1), To: r.Intn(g.States)}
			list = append(list, [2]api.Graph{g, samples.Made(g.Labels+1, g.States, append(slices.Clone(g.Edges), further))})
		}
		if len(g.Edges) > 1 {
			i := r.Intn(len(g.Edges))
			list = append(list, [2]api.Graph{g, samples.Made(g.Labels, g.States, slices.Delete(slices.Clone(g.Edges), i, i+1))})
		}
	}
	return list
}

// P13.5, P13.6: pairs of small graphs.
func TestCompare(t *testing.T) {
	met := map[[2]bool]int{}
	for _, p := range pairs(5) {
		checkPair(t, p[0], p[1])
		_, within := includedOf(t, p[0], p[1])
		_, without := includedOf(t, p[1], p[0])
		met[[2]bool{within, without}]++
	}
	if len(met) < 4 || met[[2]bool{}] < 100 {
		t.Errorf("P13.6: the pairs are too easy: %v", met)
	}
}

// P13.5, P13.6: pairs of graphs with two states and two labels are compared by their short words: there are at most 9 pairs of sets of states of both, so they differ in a word of at most 9 labels, if at all.
func TestShortDifferences(t *testing.T) {
	r := rand.New(rand.NewSource(6))
	graphs := slices.Concat(samples.Subgraphs(2, 0), samples.Subgraphs(2, 1), samples.Subgraphs(2, 2))
	var lists [][]int
	for n := range 10 {
		lists = append(lists, samples.Lists(2, n)...)
	}
	var words [][]bool
	for _, g := range graphs {
		var is []bool
		for _, list := range lists {
			is = append(is, isWord(g, list))
		}
		words = append(words, is)
	}
	for range 4000 {
		i, j := r.Intn(len(graphs)), r.Intn(len(graphs))
		var first [][]int
		both := true
		for k, list := range lists {
			if words[i][k] && !words[j][k] {
				first = append(first, list)
			}
			if both && words[i][k] != words[j][k] {
				both = false
				if word, is := equalOf(t, graphs[i], graphs[j]); is || !slices.Equal(word, list) {
					t.Fatalf("P13.6: Equal %v, %v: %v, %t, not %v", graphs[i], graphs[j], word, is, list)
				}
			}
		}
		if word, is := includedOf(t, graphs[i], graphs[j]); is != (len(first) == 0) || !is && !slices.Equal(word, first[0]) {
			t.Fatalf("P13.5: Included %v, %v: %v, %t, not %v", graphs[i], graphs[j], word, is, first)
		}
		if _, is := equalOf(t, graphs[i], graphs[j]); is != both {
			t.Fatalf("P13.6: Equal %v, %v: %t", graphs[i], graphs[j], is)
		}
	}
}

// P13.5, P13.6: graphs with many states, labels and edges, as far as there are not too many sets of them.
func TestLarge(t *testing.T) {
	r := rand.New(rand.NewSource(7))
	var graphs []api.Graph
	for _, g := range large(8) {
		sets, is := setsOf(g)
		if is && isWithin(sets) {
			checkPair(t, g, sets)
		}
		if is {
			graphs = append(graphs, g)
		}
	}
	for _, g := range graphs {
		checkPair(t, g, graphs[r.Intn(len(graphs))])
		if len(g.Edges) > 0 {
			i := r.Intn(len(g.Edges))
			less := samples.Made(g.Labels, g.States, slices.Delete(slices.Clone(g.Edges), i, i+1))
			if isWithin(less) {
				checkPair(t, g, less)
			}
		}
	}
}

// T4: comparing the words of graphs agrees with comparing their lists; graphs of sets, merged ones and covers have the words of the graphs.
func TestListedWords(t *testing.T) {
	r := rand.New(rand.NewSource(9))
	graphs := small(10)
	for range 500 {
		g, h := graphs[r.Intn(len(graphs))], graphs[r.Intn(len(graphs))]
		word, is := equalOf(t, g, h)
		for n := range 5 {
			first, e := language.Words(g, n)
			second, f := language.Words(h, n)
			same := slices.Equal(first, second)
			if e != api.OK || f != api.OK || !same && is || !is && (n < len(word) && !same || n == len(word) && same) {
				t.Fatalf("T4: Equal %v, %v: %v, %t, but the words of %d labels are %v and %v", g, h, word, is, n, first, second)
			}
		}
	}
	compared := 0
	for _, g := range graphs {
		sets, _, e := subset.Build(g)
		if e != api.OK {
			t.Fatalf("T4: Build %v: %d", g, e)
		}
		merged, _ := mergeOf(t, sets)
		list := []api.Graph{sets, merged}
		if isIrreducible(g) {
			list = append(list, coverOf(t, g))
		}
		for _, h := range list {
			if !isWithin(h) {
				continue
			}
			if word, is := equalOf(t, g, h); !is {
				t.Fatalf("T4: Equal %v, %v: %v", g, h, word)
			}
			compared++
		}
	}
	if compared < 1000 {
		t.Errorf("T4: only %d graphs have not too many sets", compared)
	}
}

// P13.5, P13.6: known differences: empty graphs and words, labels that only one graph has, long words, and the lesser one of two words.
func TestKnownDifferences(t *testing.T) {
	golden, even, whole := samples.Golden(), samples.Even(), samples.Whole(2)
	long := slices.Repeat([]int{0}, 64)
	list := []struct {
		g, h        api.Graph
		word        []int
		is          bool
		distinction []int
		same        bool
	}{
		{golden, whole, nil, true, []int{1, 1}, false}, {whole, golden, []int{1, 1}, false, []int{1, 1}, false},
		{golden, even, []int{1, 0, 1}, false, []int{1, 1}, false}, {even, golden, []int{1, 1}, false, []int{1, 1}, false},
		{samples.Of(1, 0), samples.Of(256, 0), nil, true, nil, true}, {samples.Of(256, 0), golden, nil, true, nil, false}, {golden, samples.Of(1, 0), nil, false, nil, false},
		{samples.Of(1, 1), samples.Of(256, 64), nil, true, nil, true}, {samples.Of(2, 1), golden, nil, true, []int{0}, false}, {golden, samples.Of(2, 1), []int{0}, false, []int{0}, false},
		{samples.Whole(256), samples.Whole(255), []int{255}, false, []int{255}, false}, {samples.Whole(255), samples.Whole(256), nil, true, []int{255}, false},
		{samples.Of(256, 1, 0, 255, 0), samples.Of(255, 1, 0, 254, 0), []int{255}, false, []int{254}, false}, {samples.Of(255, 1, 0, 254, 0), samples.Of(256, 1, 0, 255, 0), []int{254}, false, []int{254}, false},
		{samples.Made(200, 2, golden.Edges), golden, nil, true, nil, true}, {golden, samples.Made(200, 2, golden.Edges), nil, true, nil, true},
		{samples.Whole(1), samples.Line(1, 64), long, false, long, false}, {samples.Line(1, 64), samples.Whole(1), nil, true, long, false}, {samples.Line(1, 64), samples.Line(1, 63), long[:63], false, long[:63], false},
		{samples.Cycles(63), samples.Cycles(2, 3), nil, true, nil, true}, {samples.Beside(golden, even), golden, []int{1, 1}, false, []int{1, 1}, false}, {even, samples.Beside(golden, even), nil, true, []int{1, 0, 1}, false},
		{samples.Of(2, 3, 0, 0, 0, 1, 0, 1, 1, 1, 2, 2, 0, 1), golden, nil, true, nil, true},
	}
	for _, c := range list {
		if word, is := includedOf(t, c.g, c.h); is != c.is || !slices.Equal(word, c.word) {
			t.Errorf("P13.5: Included %v, %v: %v, %t, not %v, %t", c.g, c.h, word, is, c.word, c.is)
		}
		if word, is := equalOf(t, c.g, c.h); is != c.same || !slices.Equal(word, c.distinction) {
			t.Errorf("P13.6: Equal %v, %v: %v, %t, not %v, %t", c.g, c.h, word, is, c.distinction, c.same)
		}
		checkPair(t, c.g, c.h)
	}
}

// P13.5: a difference that is found only behind many pairs of sets: behind a label 1, both graphs have the label 1 after each multiple of 7 labels 0, but the second one not after 42 of them.
func TestLongDifference(t *testing.T) {
	g := samples.Cycles(7)
	g = samples.Made(2, 7, append(g.Edges, api.Edge{From: 0, Label: 1, To: 0}))
	h := samples.Made(2, 56, samples.Cycles(56).Edges)
	for s := 0; s < 56; s += 7 {
		if s != 42 {
			h.Edges = append(h.Edges, api.Edge{From: s, Label: 1, To: 0})
		}
	}
	h = samples.Made(2, 56, h.Edges)
	word := slices.Concat([]int{1}, slices.Repeat([]int{0}, 42), []int{1})
	if found, is := includedOf(t, g, h); is || !slices.Equal(found, word) {
		t.Errorf("P13.5: Included: %v, %t", found, is)
	}
	if found, e := minimal.Cover(h); e != api.OK || found.States != 56 {
		t.Errorf("P13.4: Cover: %v, %d", found, e)
	}
	checkPair(t, g, h)
}
