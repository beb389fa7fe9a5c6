package subset_test

import (
	"math/big"
	"slices"
	"testing"

	"groove/api"
	"groove/integer"
	"groove/language"
	"groove/samples"
	"groove/subset"
)

// intOf returns the canonical integer with the value of a number that is not negative.
func intOf(n *big.Int) api.Int { return api.Int{Mag: string(n.Bytes())} }

// numbers returns the numbers of words of 0 to n labels: how many lists of labels lead to each set is counted forth from the set of all states.
func numbers(g api.Graph, n int) []api.Int {
	sets := map[string][]int{}
	words := map[string]*big.Int{}
	if g.States > 0 {
		sets[samples.Key(samples.All(g))], words[samples.Key(samples.All(g))] = samples.All(g), big.NewInt(1)
	}
	targets := map[string][]string{}
	var list []api.Int
	for range n + 1 {
		sum, longer := new(big.Int), map[string]*big.Int{}
		for k, number := range words {
			sum.Add(sum, number)
			if _, known := targets[k]; !known {
				targets[k] = []string{}
				for label := range g.Labels {
					if to := samples.Step(g, sets[k], label); len(to) > 0 {
						sets[samples.Key(to)] = to
						targets[k] = append(targets[k], samples.Key(to))
					}
				}
			}
			for _, to := range targets[k] {
				if longer[to] == nil {
					longer[to] = new(big.Int)
				}
				longer[to].Add(longer[to], number)
			}
		}
		list, words = append(list, intOf(sum)), longer
	}
	return list
}

// checkCounts checks the numbers of words of g of some lengths, the greatest of which is the last one.
func checkCounts(t *testing.T, g api.Graph, lengths ...int) {
	t.Helper()
	want := numbers(g, lengths[len(lengths)-1])
	for _, n := range lengths {
		if number := countOf(t, g, n); number != want[n] {
			t.Fatalf("P12.5: Count %v, %d: %s, not %s", g, n, short(number), short(want[n]))
		}
	}
}

// short returns the beginning of the text of an integer.
func short(a api.Int) string {
	s := integer.Print(a)
	return s[:min(len(s), 60)]
}

// P12.5: the number of words is that of the lists of labels for which there is a path; each of them is counted once.
func TestListed(t *testing.T) {
	for _, g := range small(8) {
		for n := range 6 {
			words := slices.DeleteFunc(samples.Lists(g.Labels, n), func(labels []int) bool { return len(samples.Ends(g, samples.All(g), labels)) == 0 })
			if number := countOf(t, g, n); number != integer.Of(len(words)) {
				t.Fatalf("P12.5: Count %v, %d: %s, but there are %d words: %v", g, n, integer.Print(number), len(words), words)
			}
			if g.Labels <= api.MaxLetter {
				if list, e := language.Words(g, n); e != api.OK || len(list) != len(words) {
					t.Fatalf("P12.5: Words %v, %d: %v, %d, not %v", g, n, list, e, words)
				}
			}
		}
	}
}

// P12.5: long words of all kinds of graphs; those of deterministic ones and of others are counted alike.
func TestLongWords(t *testing.T) {
	for _, g := range slices.Concat(small(9), large(10)) {
		if _, _, e := subset.Build(g); e == api.OK {
			checkCounts(t, g, 0, 1, 2, 3, 17, 40)
		}
	}
	for _, g := range []api.Graph{samples.Even(), samples.Golden(), samples.Line(1, 64), samples.Whole(1), samples.Whole(2), samples.Whole(3), samples.Cycles(2, 3), samples.Line(3, 9, 8, 1, 0, 3, 2, 3, 3, 2, 5), samples.Grid(16, 64)} {
		checkCounts(t, g, 63, 64, 65, 1000, api.MaxPower-1, api.MaxPower)
	}
}

// P12.5: the chapter's example, and numbers that are known.
func TestKnownNumbers(t *testing.T) {
	fibonacci := []int{1, 2, 3, 5, 8, 13, 21, 34, 55, 89, 144, 233, 377, 610, 987, 1597}
	for n, want := range fibonacci {
		if number := countOf(t, samples.Golden(), n); number != integer.Of(want) {
			t.Errorf("P12.5: Count of the words without 11, %d: %s", n, integer.Print(number))
		}
	}
	// 101, and longer words of which the letters 0 between two letters 1 are odd, are none.
	for n, want := range []int{1, 2, 4, 7, 12, 20} {
		if number := countOf(t, samples.Even(), n); number != integer.Of(want) {
			t.Errorf("P12.5: Count of the even shift, %d: %s", n, integer.Print(number))
		}
	}
	for _, labels := range []int{1, 2, 10, 16, 255, 256} {
		for _, n := range []int{0, 1, 2, 7, 8, 9, 15, 16, 63, 64, 65, api.MaxPower} {
			want, _ := integer.Power(integer.Of(labels), n)
			if number := countOf(t, samples.Whole(labels), n); number != want {
				t.Errorf("P12.5: Count of all words over %d labels, %d: %s", labels, n, short(number))
			}
		}
	}
	for n := range 70 {
		want := 0
		if n < 64 {
			want = 1
		}
		if number := countOf(t, samples.Line(1, 64), n); number != integer.Of(want) {
			t.Errorf("P12.5: Count of a path, %d: %s", n, integer.Print(number))
		}
	}
	for _, n := range []int{0, 1, 2, 254, 255, 256, 257, api.MaxPower} {
		if number := countOf(t, samples.Stairs(), n); number != integer.Of(n+1) {
			t.Errorf("P12.5: Count of the words without 10, %d: %s", n, integer.Print(number))
		}
	}
}

// P12.5: graphs without states have no words; those without edges have the empty one.
func TestNoWords(t *testing.T) {
	for _, n := range []int{0, 1, 2, 64, api.MaxPower} {
		for _, labels := range []int{1, 2, 256} {
			if number := countOf(t, samples.Of(labels, 0), n); number != (api.Int{}) {
				t.Errorf("P12.5: Count without states, %d: %s", n, integer.Print(number))
			}
			for _, states := range []int{1, 2, 64} {
				if number := countOf(t, samples.Of(labels, states), n); number != integer.Of(max(0, 1-n)) {
					t.Errorf("P12.5: Count without edges, %d: %s", n, integer.Print(number))
				}
			}
		}
	}
}
