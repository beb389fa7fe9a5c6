package word_test

import (
	"math/rand"
	"slices"
	"strings"
	"testing"

	"groove/samples"
	"groove/word"
)

// offsets returns the offsets at which u occurs in w, by the definition.
func offsets(w, u string) []int {
	var list []int
	for i := range len(w) + 1 {
		if i+len(u) <= len(w) && w[i:i+len(u)] == u {
			list = append(list, i)
		}
	}
	return list
}

// checkFind compares the offsets that are found with those of the definition.
func checkFind(t *testing.T, w, u string) {
	t.Helper()
	if list := word.Find(w, u); !slices.Equal(list, offsets(w, u)) {
		t.Fatalf("P7.5: Find %q in %q: %v", u, w, list)
	}
}

// P7.5: all short strings in all short strings, the empty one among them.
func TestFindShort(t *testing.T) {
	list := samples.StringsUpTo("01", 4)
	for _, w := range samples.StringsUpTo("01", 9) {
		for _, u := range list {
			checkFind(t, w, u)
		}
		checkFind(t, w, w)
		checkFind(t, w, w+"0")
	}
	list = samples.StringsUpTo("a\xff ", 3)
	for _, w := range samples.StringsUpTo("a\xff ", 5) {
		for _, u := range list {
			checkFind(t, w, u)
		}
	}
}

// P7.5: known offsets: those that overlap, and the ones of an empty string.
func TestKnownOffsets(t *testing.T) {
	for _, c := range []struct {
		w, u string
		want []int
	}{
		{"", "", []int{0}}, {"0", "", []int{0, 1}}, {"éa", "", []int{0, 1, 2, 3}}, {"", "0", nil}, {"", "\x00", nil}, {"0", "00", nil},
		{"0000", "00", []int{0, 1, 2}}, {"0000", "0000", []int{0}}, {"01010", "010", []int{0, 2}}, {"0101010", "01010", []int{0, 2}},
		{"001001001", "001001", []int{0, 3}}, {"0010010", "10", []int{2, 5}}, {"ababcababab", "abab", []int{0, 5, 7}},
		{"aabaaabaaab", "aabaaab", []int{0, 4}}, {"x\xc3\xa9\xa9", "\xa9", []int{2, 3}}, {"é", "\xc3", []int{0}}, {"AbaB", "ab", nil}, {"0\x000\x000", "0\x000", []int{0, 2}},
	} {
		if list := word.Find(c.w, c.u); !slices.Equal(list, c.want) {
			t.Errorf("P7.5: Find %q in %q: %v", c.u, c.w, list)
		}
	}
}

// P7.5: parts of longer strings, with letters changed.
func TestFindParts(t *testing.T) {
	r := rand.New(rand.NewSource(51))
	for _, w := range mixed(52) {
		for range 6 {
			i := r.Intn(len(w) + 1)
			u := w[i : i+r.Intn(len(w)-i+1)]
			checkFind(t, w, u)
			checkFind(t, w, u+w[:len(w)/3])
			checkFind(t, w+w+u, u+u)
		}
	}
	for i := range 4000 {
		bytes := []string{"01", "011", "012"}[i%3]
		checkFind(t, samples.String(r, bytes, 60), samples.String(r, bytes, 1+r.Intn(7)))
	}
}

// P7.5: long strings, in which many occurrences overlap or nearly begin.
func TestFindLong(t *testing.T) {
	zeros := strings.Repeat("0", 200000)
	if list := word.Find(zeros, zeros[:100000]); len(list) != 100001 || list[0] != 0 || list[100000] != 100000 {
		t.Errorf("P7.5: Find zeros: %d", len(list))
	}
	if list := word.Find(zeros+"1", zeros[:100000]+"1"); !slices.Equal(list, []int{100000}) {
		t.Errorf("P7.5: Find zeros and 1: %d", len(list))
	}
	if list := word.Find(zeros, zeros[:100000]+"1"); len(list) > 0 {
		t.Errorf("P7.5: Find 1: %d", len(list))
	}
	if list := word.Find(zeros, ""); len(list) != len(zeros)+1 || list[len(zeros)] != len(zeros) {
		t.Errorf("P7.5: Find the empty string: %d", len(list))
	}
	checkFind(t, fibonacci(17), fibonacci(9))
}
