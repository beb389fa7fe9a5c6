package graph_test

import (
	"fmt"
	"math/rand"
	"regexp"
	"strconv"
	"strings"
	"testing"

	"groove/api"
	"groove/graph"
)

// textOf returns the text of g, by the definition.
func textOf(g api.Graph) string {
	s := fmt.Sprintf("graph %d %d\n", g.Labels, g.States)
	for _, edge := range g.Edges {
		s += fmt.Sprintf("%d %d %d\n", edge.From, edge.Label, edge.To)
	}
	return s
}

// number is the form of a number of a text, and form that of a text.
const number = `(?:0|[1-9][0-9]{0,8})`

var form = regexp.MustCompile(`\Agraph ` + number + ` ` + number + `\n(?:` + number + ` ` + number + ` ` + number + `\n)*\z`)

// parsed returns the graph and the error of a text, by the definition.
func parsed(s string) (api.Graph, api.Errno) {
	if len(s) > 65536 {
		return api.Graph{}, api.ErrLimit
	}
	if !form.MatchString(s) {
		return api.Graph{}, api.ErrSyntax
	}
	var numbers []int
	for _, part := range strings.Fields(s)[1:] {
		n, _ := strconv.Atoi(part)
		numbers = append(numbers, n)
	}
	g := of(numbers[0], numbers[1], numbers[2:]...)
	if e := graph.Check(g); e != api.OK {
		return api.Graph{}, e
	}
	return g, api.OK
}

// P9.7: the texts of all kinds of graphs, against the definition; parsing them yields the graphs.
func TestPrint(t *testing.T) {
	for _, g := range samples(71) {
		s := printOf(t, g)
		if s != textOf(g) {
			t.Fatalf("P9.7: Print %v: %q", g, s)
		}
		if back, e := graph.Parse(s); e != api.OK || !isSame(back, g) {
			t.Fatalf("P9.7: Parse %q: %v, %d", s, back, e)
		}
	}
}

// P9.7: known texts, in both directions.
func TestKnownTexts(t *testing.T) {
	for _, c := range []struct {
		g api.Graph
		s string
	}{
		{golden(), "graph 2 2\n0 0 0\n0 1 1\n1 0 0\n"}, {of(1, 0), "graph 1 0\n"}, {of(256, 64), "graph 256 64\n"}, {of(10, 10, 9, 0, 9), "graph 10 10\n9 0 9\n"},
		{of(256, 64, 0, 255, 63, 10, 100, 20, 63, 255, 63), "graph 256 64\n0 255 63\n10 100 20\n63 255 63\n"}, {of(12, 11, 2, 3, 4, 10, 0, 0), "graph 12 11\n2 3 4\n10 0 0\n"},
	} {
		if s := printOf(t, c.g); s != c.s {
			t.Errorf("P9.7: Print %v: %q", c.g, s)
		}
		if g, e := graph.Parse(c.s); e != api.OK || !isSame(g, c.g) {
			t.Errorf("P9.7: Parse %q: %v, %d", c.s, g, e)
		}
	}
}

// checkParse checks the error of a text, and that there is no graph beside it.
func checkParse(t *testing.T, s string, want api.Errno) {
	t.Helper()
	if g, e := graph.Parse(s); e != want || !isZero(g) {
		t.Errorf("P9.7: Parse %q of %d bytes: %v, %d", s[:min(len(s), 60)], len(s), g, e)
	}
}

// P9.7: texts that do not have the form of one.
func TestSyntax(t *testing.T) {
	for _, s := range []string{
		"", "\n", "g", "graph", "graph\n", "graph \n", "graph 2\n", "graph 2 \n", "graph  2\n", "graph 2 2", "2 2\n", "grap 2 2\n", "Graph 2 2\n", "graphs 2 2\n", "graph2 2\n", "graph 2 2 2\n", "graph 22\n", " graph 2 2\n", "\ngraph 2 2\n", "graph 2 2 \n",
		"graph  2 2\n", "graph 2  2\n", "graph\t2 2\n", "graph 2\t2\n", "graph\n2 2\n", "graph 2\n2\n", "graph 2 2\r\n", "graph 2 2\n\n", "graph 2 2\n \n", "graph 2 2\x00\n", "graph 2 2\n\x00", "graph 2 2\n#\n", "\xef\xbb\xbfgraph 2 2\n", "graph 2,2\n",
		"graph 02 2\n", "graph 2 02\n", "graph 00 2\n", "graph 2 00\n", "graph +2 2\n", "graph 2 +2\n", "graph -2 2\n", "graph 2 -2\n", "graph 2 -0\n", "graph 2 -1\n", "graph 0x2 2\n", "graph 2 2.0\n", "graph 2 2e0\n", "graph 1_0 2\n", "graph a 2\n", "graph 2 ２\n", "graph ٢ 2\n",
		"graph 1000000000 2\n", "graph 2 1000000000\n", "graph 2 9999999999\n", "graph 2 4294967298\n", "graph 2 18446744073709551618\n", "graph 2 " + strings.Repeat("9", 1000) + "\n",
		"graph 2 2\n0 0 0", "graph 2 2\n0 0\n", "graph 2 2\n0 0 0 0\n", "graph 2 2\n0\n", "graph 2 2\n0 0 0\n0 1 1", "graph 2 2\n0 0 0\n0 1", "graph 2 2\n\n0 0 0\n", "graph 2 2\n0 0 0\n\n0 1 1\n", "graph 2 2\n0 0 0\n\n", "graph 2 2\n 0 0 0\n", "graph 2 2\n0 0 0 \n",
		"graph 2 2\n0  0 0\n", "graph 2 2\n0 0  0\n", "graph 2 2\n0 0 0\r\n", "graph 2 2\r0 0 0\n", "graph 2 2\n0\t0\t0\n", "graph 2 2\n00 0 0\n", "graph 2 2\n0 01 0\n", "graph 2 2\n0 0 01\n", "graph 2 2\n-1 0 0\n", "graph 2 2\n0 -1 0\n", "graph 2 2\n0 0 -1\n", "graph 2 2\n0 0 -0\n",
		"graph 2 2\n+0 0 0\n", "graph 2 2\n0 0 1000000000\n", "graph 2 2\n1000000000 0 0\n", "graph 2 2\n0 18446744073709551616 0\n", "graph 2 2\n0 0 x\n", "graph 2 2\n0 0 0\ngraph 2 2\n", "graph 2 2\ngraph 2 2\n", "graph 2 2\n0 0 0\n0 1 1\n1 0 0\n1", "graph 2 2 0 0 0\n",
	} {
		checkParse(t, s, api.ErrSyntax)
	}
}

// P9.7: the errors of graphs come behind those of the form.
func TestTextsOfFaults(t *testing.T) {
	for _, f := range faults() {
		s := textOf(f.g)
		if !form.MatchString(s) {
			checkParse(t, s, api.ErrSyntax)
			continue
		}
		checkParse(t, s, f.e)
		checkParse(t, s[:len(s)-1], api.ErrSyntax)
		checkParse(t, s+"\n", api.ErrSyntax)
		checkParse(t, s+"0 0 -1\n", api.ErrSyntax)
	}
	for _, c := range []struct {
		s    string
		want api.Errno
	}{
		{"graph 0 0\n", api.ErrAlphabet}, {"graph 257 0\n", api.ErrAlphabet}, {"graph 999999999 999999999\n999999999 999999999 999999999\n", api.ErrAlphabet}, {"graph 2 999999999\n", api.ErrLimit}, {"graph 2 65\n5 5 5\n", api.ErrLimit},
		{"graph 2 0\n0 0 0\n", api.ErrRange}, {"graph 2 2\n999999999 0 0\n", api.ErrRange}, {"graph 2 2\n0 999999999 0\n", api.ErrRange}, {"graph 2 2\n0 0 999999999\n", api.ErrRange}, {"graph 2 2\n0 2 0\n", api.ErrRange},
		{"graph 2 2\n0 1 1\n0 0 0\n", api.ErrOrder}, {"graph 2 2\n0 0 0\n0 0 0\n", api.ErrOrder}, {"graph 2 2\n1 0 0\n0 1 1\n0 0 2\n", api.ErrOrder}, {"graph 12 12\n10 0 0\n2 0 0\n", api.ErrOrder},
	} {
		checkParse(t, c.s, c.want)
	}
}

// P9.7: texts of MaxText bytes, and with one more, which comes before all other errors.
func TestLongTexts(t *testing.T) {
	// Every long text has too many edges, which is the same error; that of the labels comes before it.
	long := "graph 0 1\n" + strings.Repeat("0 0 0\n", (api.MaxText-10)/6)
	if len(long) != api.MaxText || !form.MatchString(long) {
		t.Fatalf("P9.7: a text of %d bytes", len(long))
	}
	checkParse(t, long, api.ErrAlphabet)
	checkParse(t, long[:api.MaxText-1], api.ErrSyntax)
	checkParse(t, long[:api.MaxText-2]+"10\n", api.ErrLimit)
	checkParse(t, long+"0 0 0\n", api.ErrLimit)
	checkParse(t, long+"0", api.ErrLimit)
	for _, u := range []string{"a", "\n", "0 0 1\n", "\xff", "9", " "} {
		w := strings.Repeat(u, api.MaxText+1)
		checkParse(t, w[:api.MaxText-1], api.ErrSyntax)
		checkParse(t, w[:api.MaxText], api.ErrSyntax)
		checkParse(t, w[:api.MaxText+1], api.ErrLimit)
		checkParse(t, "graph 2 2\n"+w[:api.MaxText-11], api.ErrSyntax)
		checkParse(t, "graph 2 2\n"+w[:api.MaxText-9], api.ErrLimit)
	}
}

// P9.7: texts in which a few bytes are changed, left out or put in: whatever can be parsed is the text of the result, and all errors are those of the definition.
func TestChangedTexts(t *testing.T) {
	r := rand.New(rand.NewSource(72))
	counts := map[api.Errno]int{}
	for i := range 60000 {
		g := random(r, 1+r.Intn(12), 1+r.Intn(4), 0.2)
		if i%7 == 0 {
			g = randomDeterministic(r, 1+r.Intn(3), 1+r.Intn(40), 0.1)
		}
		s := []byte(textOf(g))
		for range 1 + r.Intn(2) {
			at, b := r.Intn(len(s)), "0123456789 \n-"[r.Intn(13)]
			switch r.Intn(3) {
			case 0:
				s[at] = b
			case 1:
				s = append(s[:at:at], s[at+1:]...)
			default:
				s = append(s[:at:at], append([]byte{b}, s[at:]...)...)
			}
		}
		want, e := parsed(string(s))
		counts[e]++
		if e != api.OK {
			checkParse(t, string(s), e)
			continue
		}
		back, e := graph.Parse(string(s))
		if e != api.OK || !isSame(back, want) || printOf(t, back) != string(s) {
			t.Fatalf("P9.7: Parse %q: %v, %d", s, back, e)
		}
	}
	for _, e := range []api.Errno{api.OK, api.ErrSyntax, api.ErrRange, api.ErrOrder, api.ErrAlphabet} {
		if counts[e] < 50 {
			t.Errorf("P9.7: %d texts with the error %d", counts[e], e)
		}
	}
}
