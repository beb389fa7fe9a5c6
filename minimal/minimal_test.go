package minimal_test

import (
	"slices"
	"testing"

	"groove/api"
	"groove/graph"
	"groove/samples"
)

// checkMerge checks the classes and the merged graph of a deterministic graph.
func checkMerge(t *testing.T, g api.Graph) {
	t.Helper()
	want := classesOf(apart(g))
	if classes := partitionOf(t, g); !slices.Equal(classes, want) {
		t.Fatalf("P13.2: Partition %v: %v, not %v", g, classes, want)
	}
	merged, classes := mergeOf(t, g)
	if !slices.Equal(classes, want) || !graph.Same(merged, mergedBy(g, want)) {
		t.Fatalf("P13.3: Merge %v: %v, %v, not %v, %v", g, merged, classes, mergedBy(g, want), want)
	}
	again, numbers := mergeOf(t, merged)
	if !graph.Same(again, merged) || !slices.Equal(numbers, samples.All(merged)) {
		t.Fatalf("P13.3: Merge %v, once more: %v, %v", merged, again, numbers)
	}
	if is, e := graph.Deterministic(merged); e != api.OK || !is {
		t.Fatalf("P13.3: Merge %v: %v is not deterministic", g, merged)
	}
	// Where an edge leads from a state, one leads from its class, to the class of its end: then all words are the same.
	next, after := arrows(g), arrows(merged)
	for s, row := range next {
		for label, to := range row {
			if class := after[classes[s]][label]; (to < 0) != (class < 0) || to >= 0 && classes[to] != class {
				t.Fatalf("P13.3: Merge %v: %v, %v: other words from %d, with the label %d", g, merged, classes, s, label)
			}
		}
	}
}

// P13.2, P13.3: classes and merged graphs of all kinds of deterministic graphs.
func TestMerge(t *testing.T) {
	less := 0
	for _, g := range machines(1) {
		checkMerge(t, g)
		if merged, _ := mergeOf(t, g); merged.States > 2 && merged.States < g.States {
			less++
		}
	}
	if less < 200 {
		t.Errorf("P13.3: only %d samples have equivalent states and several classes", less)
	}
}

// P13.3: all deterministic graphs with three states and two labels: from a class, the merged graph has the same short words as from its states.
func TestShortWords(t *testing.T) {
	lists := slices.Concat(samples.Lists(2, 1), samples.Lists(2, 2), samples.Lists(2, 3))
	for _, g := range everyMachine(2, 3) {
		merged, classes := mergeOf(t, g)
		for s, class := range classes {
			for u, other := range classes {
				same := true
				for _, word := range lists {
					is := len(samples.Ends(g, []int{s}, word)) > 0
					if is != (len(samples.Ends(merged, []int{class}, word)) > 0) {
						t.Fatalf("P13.3: Merge %v: %v, %v: the word %v from %d", g, merged, classes, word, s)
					}
					same = same && is == (len(samples.Ends(g, []int{u}, word)) > 0)
				}
				if same != (class == other) {
					t.Fatalf("P13.2: Partition %v: %v, the states %d and %d", g, classes, s, u)
				}
			}
		}
	}
}

// P13.1: the chapter's example, and graphs with known classes.
func TestKnownClasses(t *testing.T) {
	list := []struct {
		g       api.Graph
		merged  api.Graph
		classes []int
	}{
		{samples.Of(2, 3, 0, 0, 0, 0, 1, 1, 1, 0, 2, 2, 0, 2, 2, 1, 1), samples.Golden(), []int{0, 1, 0}},
		{samples.Golden(), samples.Golden(), []int{0, 1}}, {samples.Even(), samples.Even(), []int{0, 1}},
		{samples.Of(1, 0), samples.Of(1, 0), nil}, {samples.Of(256, 0), samples.Of(256, 0), nil},
		{samples.Of(1, 1), samples.Of(1, 1), []int{0}}, {samples.Of(256, 64), samples.Of(256, 1), make([]int, 64)},
		{samples.Cycles(64), samples.Cycles(1), make([]int, 64)}, {samples.Cycles(2, 3, 5), samples.Cycles(1), make([]int, 10)}, {samples.Grid(256, 4), samples.Whole(256), make([]int, 4)},
		{samples.Line(1, 64), samples.Line(1, 64), samples.All(samples.Line(1, 64))},
		// States are equivalent if they lead nowhere, however one comes to them; what leads on stays apart.
		{samples.Of(1, 5, 0, 0, 1, 2, 0, 3, 4, 0, 0), samples.Of(1, 3, 0, 0, 1, 2, 0, 0), []int{0, 1, 0, 1, 2}},
		{samples.Of(2, 3, 0, 0, 2, 0, 1, 2, 1, 0, 2, 1, 1, 0), samples.Of(2, 3, 0, 0, 2, 0, 1, 2, 1, 0, 2, 1, 1, 0), []int{0, 1, 2}},
		// The classes are numbered by their least states, whatever tells them apart first.
		{samples.Of(3, 4, 0, 2, 0, 1, 0, 0, 2, 2, 3, 3, 2, 2), samples.Of(3, 2, 0, 2, 0, 1, 0, 0), []int{0, 1, 0, 0}},
		{samples.Of(2, 4, 0, 0, 3, 1, 1, 3, 2, 0, 3), samples.Of(2, 3, 0, 0, 2, 1, 1, 2), []int{0, 1, 0, 2}},
		{samples.Of(256, 3, 0, 255, 1, 1, 255, 0, 2, 254, 2), samples.Of(256, 2, 0, 255, 0, 1, 254, 1), []int{0, 0, 1}},
	}
	for _, c := range list {
		if classes := partitionOf(t, c.g); !slices.Equal(classes, c.classes) {
			t.Errorf("P13.2: Partition %v: %v, not %v", c.g, classes, c.classes)
		}
		if merged, classes := mergeOf(t, c.g); !slices.Equal(classes, c.classes) || !graph.Same(merged, c.merged) {
			t.Errorf("P13.3: Merge %v: %v, %v, not %v, %v", c.g, merged, classes, c.merged, c.classes)
		}
	}
}

// P13.2: the first word that exactly one of two states has, for all pairs of states; there is none exactly if they are in one class.
func TestSeparate(t *testing.T) {
	for i, g := range machines(2) {
		next, lengths := arrows(g), apart(g)
		for s := range g.States {
			for u := range g.States {
				if g.States > 12 && (s+3*u+i)%97 > 0 {
					continue
				}
				want, there := separating(next, lengths, s, u)
				word, is := separateOf(t, g, s, u)
				if is != there || !slices.Equal(word, want) {
					t.Fatalf("P13.2: Separate %v, %d, %d: %v, %t, not %v, %t", g, s, u, word, is, want, there)
				}
				if first, second := samples.Ends(g, []int{s}, word), samples.Ends(g, []int{u}, word); is && (len(first) > 0) == (len(second) > 0) {
					t.Fatalf("P13.2: Separate %v, %d, %d: %v leads to %v and %v", g, s, u, word, first, second)
				}
			}
		}
	}
}

// P13.2: the chapter's example, and known words: a lesser word before a greater one of the same length, a shorter one first, and long ones.
func TestKnownWords(t *testing.T) {
	zeros := slices.Repeat([]int{0}, 64)
	tour := samples.Cycles(7, 56)
	tour.Labels = 2
	for s := 6; s < 62; s += 7 {
		tour = samples.Made(2, 63, append(tour.Edges, api.Edge{From: s, Label: 1, To: s}))
	}
	list := []struct {
		g    api.Graph
		s, u int
		word []int
	}{
		{samples.Of(2, 3, 0, 0, 0, 0, 1, 1, 1, 0, 2, 2, 0, 2, 2, 1, 1), 0, 1, []int{1}}, {samples.Of(2, 3, 0, 0, 0, 0, 1, 1, 1, 0, 2, 2, 0, 2, 2, 1, 1), 0, 2, nil},
		{samples.Of(1, 1), 0, 0, nil}, {samples.Of(256, 64), 0, 63, nil}, {samples.Of(256, 64, 63, 255, 63), 63, 0, []int{255}}, {samples.Cycles(31, 33), 0, 63, nil},
		{samples.Line(1, 64), 0, 1, zeros[:63]}, {samples.Line(1, 64), 62, 63, zeros[:1]}, {samples.Line(1, 64), 63, 0, zeros[:1]}, {samples.Line(1, 64), 31, 30, zeros[:33]},
		{tour, 0, 7, append(slices.Repeat([]int{0}, 55), 1)}, {tour, 7, 0, append(slices.Repeat([]int{0}, 55), 1)}, {tour, 7, 14, append(slices.Repeat([]int{0}, 48), 1)},
		// Both 0 and 1 lead to states that are told apart by one label more, 2 at once.
		{samples.Of(3, 4, 0, 0, 2, 1, 0, 3, 0, 1, 2, 1, 1, 3, 2, 1, 2), 0, 1, []int{0, 1}},
		{samples.Of(3, 4, 0, 0, 2, 1, 0, 3, 0, 1, 2, 1, 1, 3, 2, 1, 2, 0, 2, 0), 0, 1, []int{2}},
		{samples.Of(3, 5, 0, 1, 2, 1, 1, 3, 0, 0, 4, 1, 0, 4, 2, 2, 2), 1, 0, []int{1, 2}},
	}
	for _, c := range list {
		word, is := separateOf(t, c.g, c.s, c.u)
		if !slices.Equal(word, c.word) || is != (len(c.word) > 0) {
			t.Errorf("P13.2: Separate %v, %d, %d: %v, %t, not %v", c.g, c.s, c.u, word, is, c.word)
		}
	}
}
