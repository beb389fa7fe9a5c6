package forbidden_test

import (
	"math/rand"
	"slices"
	"strings"
	"testing"

	"groove/api"
	"groove/forbidden"
	"groove/samples"
)

// P14.2: the minimal words of all lists, by the definition, however the lists are ordered and repeated.
func TestReduce(t *testing.T) {
	r := rand.New(rand.NewSource(1))
	for _, c := range slices.Concat(every(2, 3), constraints(2)) {
		want := minimalOf(c.l)
		mixed := slices.Clone(c.l)
		for len(mixed) > 0 && len(mixed) < min(len(c.l)+3, api.MaxCode) {
			mixed = append(mixed, c.l[r.Intn(len(c.l))])
		}
		r.Shuffle(len(mixed), func(i, j int) { mixed[i], mixed[j] = mixed[j], mixed[i] })
		for _, l := range [][]string{c.l, mixed} {
			if got := reduced(t, constraint{c.q, l}); !slices.Equal(got, want) {
				t.Fatalf("P14.2: Reduce %d, %q: %q, not %q", c.q, l, got, want)
			}
		}
		if got := reduced(t, constraint{c.q, want}); !slices.Equal(got, want) {
			t.Fatalf("P14.2: Reduce %d, %q: %q", c.q, want, got)
		}
	}
}

// P14.2: the words that the minimal words of a list allow are those that the list allows; these are those without factors in it.
func TestAllowed(t *testing.T) {
	r := rand.New(rand.NewSource(3))
	for _, c := range constraints(4) {
		least := constraint{c.q, reduced(t, c)}
		words := samples.StringsUpTo(letters[:c.q], size(c.q)-1)
		for range 20 {
			w := samples.String(r, letters[:c.q], r.Intn(60))
			words = append(words, w)
			for _, u := range c.l[:min(len(c.l), 3)] {
				words = append(words, u, w+u, u+w, u[1:]+w+u[:len(u)-1], w+u+w)
			}
		}
		for _, w := range words {
			want := isAllowed(c.l, w)
			if is := allowed(t, c, w); is != want {
				t.Fatalf("P14.1: Allowed %d, %q, %q: %t", c.q, c.l, w, is)
			}
			if is := allowed(t, least, w); is != want {
				t.Fatalf("P14.2: Allowed %d, %q, %q: %t, but %q allow it: %t", c.q, least.l, w, is, c.l, want)
			}
		}
	}
}

// P14.1: words of MaxWord letters, with a forbidden word of MaxLength letters at the start, at the end, and nowhere.
func TestLongWords(t *testing.T) {
	u := strings.Repeat("0", api.MaxLength-1) + "1"
	rest := strings.Repeat("1", api.MaxWord-api.MaxLength)
	zeros := strings.Repeat("0", api.MaxWord)
	c := constraint{2, []string{"10101", u}}
	for w, want := range map[string]bool{u + rest: false, rest + u: false, rest[1:] + u + "1": false, "0" + rest + u[1:]: true, zeros: true, zeros[1:] + "1": false, rest + u[:len(u)-1] + "0": true, rest + u[:len(u)-5] + "10101": false} {
		if is := allowed(t, c, w); is != want {
			t.Errorf("P14.1: Allowed %q, %q.., %d letters: %t", c.l, short(w), len(w), is)
		}
	}
}

// P14.1: the greatest length of any strings.
func TestLongest(t *testing.T) {
	for _, c := range []struct {
		l    []string
		want int
	}{
		{nil, 0}, {[]string{}, 0}, {[]string{""}, 0}, {[]string{"", "0", ""}, 1}, {[]string{"11", "000", "1"}, 3}, {[]string{"000", "11"}, 3}, {[]string{"1", "", "22"}, 2}, {[]string{"é", "x"}, 2}, {[]string{"\xff\x00\n"}, 3}, {make([]string, 100000), 0},
		{[]string{strings.Repeat("0", 1000), "1"}, 1000}, {append(make([]string, 5000), strings.Repeat("x", api.MaxWord+1)), api.MaxWord + 1},
	} {
		if n := forbidden.Longest(c.l); n != c.want {
			t.Errorf("P14.1: Longest %d words: %d, not %d", len(c.l), n, c.want)
		}
	}
}

// P14.1: known minimal words.
func TestKnownLists(t *testing.T) {
	all := samples.Strings(letters[:2], 6)
	for _, c := range []struct {
		q       int
		l, want []string
	}{
		{2, nil, nil}, {1, []string{"0"}, []string{"0"}}, {2, []string{"101", "1"}, []string{"1"}}, {2, []string{"1", "101"}, []string{"1"}}, {2, []string{"11", "11", "11"}, []string{"11"}},
		{2, []string{"0110", "11", "010", "10"}, []string{"10", "11"}}, {3, []string{"2", "1", "0", "210"}, []string{"0", "1", "2"}}, {16, []string{"f0", "0f", "f0f"}, []string{"0f", "f0"}}, {2, []string{"10", "1"}, []string{"1"}}, {2, []string{"01", "1"}, []string{"1"}}, {2, []string{"010", "101"}, []string{"010", "101"}},
		{2, all, all}, {2, slices.Repeat([]string{"10"}, api.MaxCode), []string{"10"}}, {2, append(all[1:], "0"), []string{"0", "111111"}},
	} {
		if l := reduced(t, constraint{c.q, c.l}); !slices.Equal(l, c.want) {
			t.Errorf("P14.2: Reduce %d, %q: %q, not %q", c.q, c.l, l, c.want)
		}
	}
}
