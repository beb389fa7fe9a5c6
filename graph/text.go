package graph

import (
	"strconv"
	"strings"

	"groove/api"
)

const (
	textName  = "graph "  // how a text begins
	maxNumber = 999999999 // the greatest number of a text
)

// Print returns the text of g.
func Print(g api.Graph) (string, api.Errno) {
	if !isValid(g) {
		return "", api.ErrArgument
	}
	var text strings.Builder
	text.WriteString(textName)
	writeLine(&text, g.Labels, g.States)
	for _, edge := range g.Edges {
		writeLine(&text, edge.From, edge.Label, edge.To)
	}
	return text.String(), api.OK
}

// Parse returns the valid graph with the text s.
func Parse(s string) (api.Graph, api.Errno) {
	if len(s) > api.MaxText {
		return api.Graph{}, api.ErrLimit
	}
	g, is := read(s)
	if !is {
		return api.Graph{}, api.ErrSyntax
	}
	if e := Check(g); e != api.OK {
		return api.Graph{}, e
	}
	return g, api.OK
}

// writeLine writes a line of numbers.
func writeLine(text *strings.Builder, numbers ...int) {
	for i, number := range numbers {
		if i > 0 {
			text.WriteByte(' ')
		}
		text.WriteString(strconv.Itoa(number))
	}
	text.WriteByte('\n')
}

// read returns the graph that a text describes, which need not be valid, and whether the text has the form of one.
func read(s string) (api.Graph, bool) {
	whole, is := strings.CutSuffix(s, "\n")
	if !is {
		return api.Graph{}, false
	}
	lines := strings.Split(whole, "\n")
	first, is := strings.CutPrefix(lines[0], textName)
	if !is {
		return api.Graph{}, false
	}
	sizes, is := readNumbers(first, 2)
	if !is {
		return api.Graph{}, false
	}
	g := api.Graph{Labels: sizes[0], States: sizes[1]}
	for _, line := range lines[1:] {
		numbers, is := readNumbers(line, 3)
		if !is {
			return api.Graph{}, false
		}
		g.Edges = append(g.Edges, api.Edge{From: numbers[0], Label: numbers[1], To: numbers[2]})
	}
	return g, true
}

// readNumbers returns the numbers of a line, and whether it has the form of so many.
func readNumbers(line string, count int) ([]int, bool) {
	parts := strings.Split(line, " ")
	if len(parts) != count {
		return nil, false
	}
	numbers := make([]int, count)
	for i, part := range parts {
		number, err := strconv.Atoi(part)
		// A number has one text only: others have signs or leading zeros.
		if err != nil || number < 0 || number > maxNumber || strconv.Itoa(number) != part {
			return nil, false
		}
		numbers[i] = number
	}
	return numbers, true
}
