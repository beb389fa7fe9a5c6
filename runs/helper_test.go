package runs_test

import (
	"math"
	"math/rand"
	"strings"
	"testing"

	"groove/api"
	"groove/runs"
	"groove/samples"
)

// letters are the letters by the document, in their order.
const letters = "0123456789abcdef"

// of returns the runs whose letters and lengths follow each other.
func of(numbers ...int) []api.Run {
	var list []api.Run
	for i := 0; i < len(numbers); i += 2 {
		list = append(list, api.Run{Letter: numbers[i], Length: numbers[i+1]})
	}
	return list
}

// randomRuns returns a word of n runs of up to most letters, each of them one of these bytes, of which there are at least two.
func randomRuns(r *rand.Rand, bytes string, n, most int) string {
	var w strings.Builder
	i := 0
	for range n {
		i = (i + 1 + r.Intn(len(bytes)-1)) % len(bytes)
		w.WriteString(strings.Repeat(bytes[i:i+1], 1+r.Intn(most)))
	}
	return w.String()
}

// full returns a word of MaxWord letters that repeats u.
func full(u string) string {
	return strings.Repeat(u, api.MaxWord/len(u)+1)[:api.MaxWord]
}

// binaries returns binary words of all kinds: all short ones, those of one run, those without equal neighbours, and words of MaxWord letters.
func binaries(seed int64) []string {
	r := rand.New(rand.NewSource(seed))
	list := samples.StringsUpTo("01", 11)
	for n := range 40 {
		list = append(list, strings.Repeat("0", n), strings.Repeat("1", n), strings.Repeat("01", n), strings.Repeat("10", n)+"1", strings.Repeat("1", n)+strings.Repeat("0", n))
	}
	for range 300 {
		list = append(list, samples.String(r, "01", r.Intn(200)), randomRuns(r, "01", 1+r.Intn(20), 1+r.Intn(9)))
	}
	return append(list, full("0"), full("1"), full("01"), full("0011101"), samples.String(r, "01", api.MaxWord), samples.String(r, "01", api.MaxWord-1))
}

// mixed returns words over 16 letters of all kinds, the binary ones among them.
func mixed(seed int64) []string {
	r := rand.New(rand.NewSource(seed))
	list := append(binaries(seed), samples.StringsUpTo("05f", 6)...)
	for i := range letters {
		letter := letters[i : i+1]
		list = append(list, letter, letter+letter, letter+letters, letters+letter, strings.Repeat(letter, 100), full(letter))
	}
	for range 300 {
		list = append(list, samples.String(r, letters, r.Intn(100)), randomRuns(r, letters, 1+r.Intn(30), 1+r.Intn(9)), randomRuns(r, "09f", 1+r.Intn(30), 3))
	}
	return append(list, full(letters), full("ffa0"), samples.String(r, letters, api.MaxWord))
}

// others are strings with other bytes than letters: capitals, spaces, signs, runes of more bytes, and bytes that are no runes.
func others() []string {
	return []string{"g", "A", "F", " ", "0 1", " 01", "01 ", "01\n", "0\x00", "\x00", "/", ":", "`", "01/", "01:", "01g1", "0G", "-1", "+", "0x1", "0１", "é", "01é", "\xff", "0\x80", "\xb0\xb1"}
}

// noBits are strings that are no binary words, though they are words.
func noBits() []string {
	return []string{"2", "02", "20", "0121", "112", "a", "01f", "f01", "9", letters}
}

// numbers are numbers that no letter has.
func numbers() []int {
	return []int{-1, -2, -16, 16, 17, 32, 48, 49, 256, 257, math.MaxInt32 + 1, 1 << 32, math.MaxInt, math.MinInt, math.MinInt + 1}
}

// starts are numbers that are no levels.
func starts() []int {
	return []int{-1, -2, 2, 3, 10, 16, 48, 49, 256, 257, 1 << 32, 1<<32 + 1, math.MaxInt, math.MinInt, math.MinInt + 1}
}

// short returns the beginning of a long word for a message.
func short(w string) string {
	if len(w) > 40 {
		return w[:40] + ".."
	}
	return w
}

// splitOf returns the runs of a word that is valid.
func splitOf(t *testing.T, w string) []api.Run {
	t.Helper()
	l, e := runs.Split(w)
	if e != api.OK {
		t.Fatalf("P8.1: Split %q: %d", short(w), e)
	}
	return l
}

// levelsOf returns the levels of a word that is valid.
func levelsOf(t *testing.T, start int, w string) string {
	t.Helper()
	x, e := runs.Levels(start, w)
	if e != api.OK {
		t.Fatalf("P8.1: Levels %d, %q: %d", start, short(w), e)
	}
	return x
}

// chargesOf returns the charges of a word that is valid.
func chargesOf(t *testing.T, w string) []int {
	t.Helper()
	l, e := runs.Charges(w)
	if e != api.OK {
		t.Fatalf("P8.1: Charges %q: %d", short(w), e)
	}
	return l
}

// disparityOf returns the charge of a word that is valid.
func disparityOf(t *testing.T, w string) int {
	t.Helper()
	d, e := runs.Disparity(w)
	if e != api.OK {
		t.Fatalf("P8.1: Disparity %q: %d", short(w), e)
	}
	return d
}
