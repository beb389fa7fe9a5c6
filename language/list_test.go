package language_test

import (
	"math/rand"
	"slices"
	"strings"
	"testing"

	"groove/api"
	"groove/language"
	"groove/samples"
)

// P11.3, P11.4: the lists of words of a few letters, for graphs of all kinds, against the definitions: all words, from each state, and between each pair of states.
func TestListsByDefinition(t *testing.T) {
	r := rand.New(rand.NewSource(41))
	for _, g := range graphs(42) {
		for n := range depth(g) + 1 {
			words := samples.Strings(letters[:g.Labels], n)
			tables := tablesOf(g, words)
			if list := wordsOf(t, g, n); !slices.Equal(list, chosen(tables, words, table.isWord)) {
				t.Fatalf("P11.3: Words %v, %d: %v", g, n, list)
			}
			for _, s := range some(r, g) {
				want := chosen(tables, words, func(a table) bool { return a[s] != 0 })
				if list := fromOf(t, g, s, n); !slices.Equal(list, want) {
					t.Fatalf("P11.3: From %v, %d, %d: %v, not %v", g, s, n, list, want)
				}
				for _, u := range some(r, g) {
					want := chosen(tables, words, func(a table) bool { return a.has(s, u) })
					if list := betweenOf(t, g, s, u, n); !slices.Equal(list, want) {
						t.Fatalf("P11.3: Between %v, %d, %d, %d: %v, not %v", g, s, u, n, list, want)
					}
				}
			}
		}
	}
}

// some returns all states of a small graph, and some of those of a great one.
func some(r *rand.Rand, g api.Graph) []int {
	if g.States <= 8 {
		return samples.All(g)
	}
	return []int{0, r.Intn(g.States), g.States - 1}
}

// P11.3: known lists: without states and edges, of no letters, of one, of words that end in several states, with labels that no edge has, and with 16 labels.
func TestKnownLists(t *testing.T) {
	split := samples.Of(2, 3, 0, 0, 1, 0, 0, 2, 1, 1, 0, 2, 0, 2)
	one := samples.Of(16, 2, 0, 11, 1, 0, 14, 1, 1, 2, 1)
	for _, c := range []struct {
		g    api.Graph
		n    int
		want []string
	}{
		{samples.Of(1, 0), 0, nil}, {samples.Of(1, 0), 1, nil}, {samples.Of(2, 0), api.MaxPower, nil}, {samples.Of(16, 0), 3, nil}, {samples.Of(2, 1), 0, []string{""}}, {samples.Of(2, 1), 1, nil}, {samples.Of(2, 1), api.MaxPower, nil}, {samples.Of(1, 64), 0, []string{""}}, {samples.Of(1, 64), 2, nil},
		{samples.Golden(), 0, []string{""}}, {samples.Golden(), 1, []string{"0", "1"}}, {samples.Golden(), 3, []string{"000", "001", "010", "100", "101"}}, {samples.Golden(), 4, []string{"0000", "0001", "0010", "0100", "0101", "1000", "1001", "1010"}}, {full(16), 1, strings.Split(letters, "")},
		{split, 1, []string{"0", "1"}}, {split, 2, []string{"00", "01", "10"}}, {split, 3, []string{"000", "010", "100", "101"}}, {split, 4, []string{"0000", "0100", "0101", "1000", "1010"}},
		{one, 1, []string{"2", "b", "e"}}, {one, 2, []string{"22", "b2", "e2"}}, {chain(2, 3, false), 2, []string{"00", "01", "10", "11"}}, {chain(2, 3, false), 3, nil}, {chain(2, 3, false), api.MaxPower, nil},
		{samples.Of(3, 2, 1, 1, 1), 5, []string{"11111"}}, {samples.Of(2, 4, 0, 0, 1, 1, 1, 2, 2, 0, 3), 3, []string{"010"}}, {samples.Of(2, 4, 0, 0, 1, 1, 1, 2, 2, 0, 3), 2, []string{"01", "10"}}, {samples.Of(2, 4, 0, 0, 1, 1, 1, 2, 2, 0, 3), 4, nil},
	} {
		if list := wordsOf(t, c.g, c.n); !slices.Equal(list, c.want) {
			t.Errorf("P11.3: Words %v, %d: %v", c.g, c.n, list)
		}
	}
	for _, c := range []struct {
		g             api.Graph
		s, u, n       int
		from, between []string
	}{
		{split, 0, 0, 0, []string{""}, []string{""}}, {split, 0, 1, 0, []string{""}, nil}, {split, 2, 2, 0, []string{""}, []string{""}}, {split, 0, 1, 1, []string{"0"}, []string{"0"}}, {split, 0, 2, 1, []string{"0"}, []string{"0"}}, {split, 0, 0, 1, []string{"0"}, nil},
		{split, 0, 2, 3, []string{"000", "010"}, []string{"000", "010"}}, {split, 0, 1, 3, []string{"000", "010"}, []string{"010"}}, {split, 0, 0, 3, []string{"000", "010"}, nil}, {split, 2, 2, 3, []string{"000"}, []string{"000"}}, {split, 2, 0, 3, []string{"000"}, nil}, {split, 1, 2, 3, []string{"100", "101"}, []string{"100"}}, {split, 1, 0, 3, []string{"100", "101"}, []string{"101"}},
		{one, 0, 1, 2, []string{"b2", "e2"}, []string{"b2", "e2"}}, {one, 0, 0, 2, []string{"b2", "e2"}, nil}, {one, 1, 1, 4, []string{"2222"}, []string{"2222"}}, {samples.Of(1, 64), 63, 63, 0, []string{""}, []string{""}}, {samples.Of(1, 64), 63, 63, 1, nil, nil}, {chain(1, 64, false), 0, 63, 63, []string{strings.Repeat("0", 63)}, []string{strings.Repeat("0", 63)}}, {chain(1, 64, false), 1, 63, 63, nil, nil},
	} {
		if list := fromOf(t, c.g, c.s, c.n); !slices.Equal(list, c.from) {
			t.Errorf("P11.3: From %v, %d, %d: %v", c.g, c.s, c.n, list)
		}
		if list := betweenOf(t, c.g, c.s, c.u, c.n); !slices.Equal(list, c.between) {
			t.Errorf("P11.3: Between %v, %d, %d, %d: %v", c.g, c.s, c.u, c.n, list)
		}
	}
}

// P11.3, P11.4: longer lists ascend, have words of the graph only, of which the beginnings stand in shorter lists, and are those from all states, and between all pairs of states, together; what goes on with a letter is in the next list.
func TestLists(t *testing.T) {
	for _, g := range graphs(43) {
		if g.States > 8 || g.Labels > 4 {
			continue
		}
		shorter := wordsOf(t, g, 0)
		for n := 1; n <= 9; n++ {
			list, e := language.Words(g, n)
			if e == api.ErrLimit {
				break
			}
			var grown []string
			for _, w := range shorter {
				for _, letter := range lettersOf(t, g, w) {
					grown = append(grown, w+string(letter))
				}
			}
			if !slices.Equal(list, grown) {
				t.Fatalf("P11.3: Words %v, %d: %v, but with a letter behind the shorter ones %v", g, n, list, grown)
			}
			checkParts(t, g, n, list)
			shorter = list
		}
	}
}

// checkParts checks that words are those from all states together, and these those between all pairs of states together.
func checkParts(t *testing.T, g api.Graph, n int, list []string) {
	t.Helper()
	var together []string
	for s := range g.States {
		from := fromOf(t, g, s, n)
		together = append(together, from...)
		var between []string
		for u := range g.States {
			between = append(between, betweenOf(t, g, s, u, n)...)
		}
		if !slices.Equal(joined(between), from) {
			t.Fatalf("P11.4: From %v, %d, %d: %v, between the states %v", g, s, n, from, between)
		}
	}
	if !slices.Equal(joined(together), list) {
		t.Fatalf("P11.4: Words %v, %d: %v, from the states %v", g, n, list, together)
	}
}

// joined returns the words of lists that are put together, in order, each once.
func joined(list []string) []string {
	return slices.Compact(slices.Sorted(slices.Values(list)))
}

// steps returns the words of n letters without a letter 0 behind a letter 1.
func steps(n int) []string {
	var list []string
	for ones := range n + 1 {
		list = append(list, strings.Repeat("0", n-ones)+strings.Repeat("1", ones))
	}
	return list
}

// P11.3: exactly as many words as a list can have, of few letters and of very many, and one more.
func TestLimit(t *testing.T) {
	for _, c := range []struct {
		g    api.Graph
		n    int
		want []string
	}{
		{full(2), 12, samples.Strings(letters[:2], 12)}, {full(4), 6, samples.Strings(letters[:4], 6)}, {full(8), 4, samples.Strings(letters[:8], 4)}, {full(16), 3, samples.Strings(letters[:16], 3)}, {full(3), 7, samples.Strings(letters[:3], 7)}, {full(1), api.MaxPower, samples.Strings(letters[:1], api.MaxPower)}, {chain(2, 13, false), 12, samples.Strings(letters[:2], 12)}, {samples.Stairs(), api.MaxList - 1, steps(api.MaxList - 1)},
	} {
		if list := wordsOf(t, c.g, c.n); !slices.Equal(list, c.want) {
			t.Errorf("P11.3: Words %v, %d: %d words", c.g, c.n, len(list))
		}
		if list := fromOf(t, c.g, 0, c.n); !slices.Equal(list, c.want) {
			t.Errorf("P11.3: From %v, 0, %d: %d words", c.g, c.n, len(list))
		}
	}
	for _, n := range []int{7, 8, 12, 13, 100, api.MaxPower} {
		for _, c := range []struct {
			q, most int
		}{{2, 12}, {3, 7}, {4, 6}, {7, 4}, {8, 4}, {16, 3}} {
			if n > c.most {
				checkLimit(t, full(c.q), 0, 0, n)
			}
		}
	}
	checkLimit(t, samples.Stairs(), 0, 1, api.MaxList)
	// One more word than there can be of 12 letters, from a state beside.
	more := samples.Beside(line(3, 13, 0, 1), line(3, 13, 2))
	for _, n := range []int{12, 13, 14, api.MaxPower} {
		if list, e := language.Words(more, n); e != api.ErrLimit || len(list) > 0 {
			t.Errorf("P11.3: Words of 12 letters and one more, %d: %d words, %d", n, len(list), e)
		}
	}
	if list := wordsOf(t, more, 11); len(list) != 1<<11+1 {
		t.Errorf("P11.3: Words of 11 letters: %d words", len(list))
	}
	if list := fromOf(t, more, 0, 12); !slices.Equal(list, samples.Strings(letters[:2], 12)) {
		t.Errorf("P11.3: From 0, 12: %d words", len(list))
	}
}

// checkLimit checks that there are too many words, also between two states.
func checkLimit(t *testing.T, g api.Graph, s, u, n int) {
	t.Helper()
	if list, e := language.Words(g, n); e != api.ErrLimit || len(list) > 0 {
		t.Errorf("P11.3: Words %v, %d: %d words, %d", g, n, len(list), e)
	}
	if list, e := language.From(g, s, n); e != api.ErrLimit || len(list) > 0 {
		t.Errorf("P11.3: From %v, %d, %d: %d words, %d", g, s, n, len(list), e)
	}
	if list, e := language.Between(g, s, u, n); e != api.ErrLimit || len(list) > 0 {
		t.Errorf("P11.3: Between %v, %d, %d, %d: %d words, %d", g, s, u, n, len(list), e)
	}
}

// P11.3: the limit counts for all numbers of letters up to n, though longer words are few, or there are none.
func TestLimitOfShorterWords(t *testing.T) {
	none := chain(2, 14, false)
	// From 14 letters on, the only word is that of the state 14, which leads to itself.
	few := samples.Beside(none, samples.Of(2, 1, 0, 1, 0))
	for _, n := range []int{13, 14, 15, 26, 100, api.MaxPower} {
		checkLimit(t, none, 0, 13, n)
		checkLimit(t, few, 0, 13, n)
		// No word leads from 0 there, but those that begin in 0 are counted.
		checkLimit(t, none, 0, 0, n)
		checkLimit(t, few, 0, 14, n)
		if list := fromOf(t, few, 14, n); !slices.Equal(list, []string{strings.Repeat("1", n)}) {
			t.Errorf("P11.3: From 14 beside the chain, %d: %d words", n, len(list))
		}
		for _, s := range []int{1, 2, 7, 13} {
			if list := fromOf(t, none, s, n); len(list) > 0 {
				t.Errorf("P11.3: From %d of the chain, %d: %d words", s, n, len(list))
			}
			if list := betweenOf(t, none, s, 13, n); len(list) > 0 {
				t.Errorf("P11.3: Between %d and 13 of the chain, %d: %d words", s, n, len(list))
			}
		}
	}
	for _, n := range []int{12, 13, 14, api.MaxPower} {
		if list := wordsOf(t, chain(2, 13, false), n); len(list) != 1<<12 && n == 12 || len(list) > 0 && n > 12 {
			t.Errorf("P11.3: Words of the shorter chain, %d: %d words", n, len(list))
		}
	}
}

// P11.3: for words from a state, and between two states, those that begin in this state are counted only.
func TestLimitOfState(t *testing.T) {
	g := samples.Beside(samples.Of(2, 2, 0, 1, 1, 1, 1, 0), full(2))
	for _, n := range []int{13, 20, 1000, api.MaxPower} {
		ones := strings.Repeat("1", n)
		for s := range 2 {
			if list := fromOf(t, g, s, n); !slices.Equal(list, []string{ones}) {
				t.Errorf("P11.3: From %d, %d: %d words", s, n, len(list))
			}
			for u := range 3 {
				if list := betweenOf(t, g, s, u, n); (len(list) == 1) != (u == (s+n)%2) || len(list) > 0 && list[0] != ones {
					t.Errorf("P11.3: Between %d and %d, %d: %d words", s, u, n, len(list))
				}
			}
		}
		checkLimit(t, g, 2, 2, n)
		checkLimit(t, g, 2, 0, n)
	}
	if list := fromOf(t, samples.Stairs(), 1, api.MaxPower); !slices.Equal(list, []string{strings.Repeat("1", api.MaxPower)}) {
		t.Errorf("P11.3: From 1 of the stairs: %d words", len(list))
	}
	checkLimit(t, samples.Stairs(), 0, 0, api.MaxList)
	if list := betweenOf(t, samples.Stairs(), 0, 0, 4000); !slices.Equal(list, []string{strings.Repeat("0", 4000)}) {
		t.Errorf("P11.3: Between 0 and 0 of the stairs: %d words", len(list))
	}
}
