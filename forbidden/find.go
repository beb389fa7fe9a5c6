package forbidden

import (
	"strings"

	"groove/api"
	"groove/graph"
	"groove/language"
)

// Find returns the minimal forbidden words of g of at most n letters, in order.
func Find(g api.Graph, n int) ([]string, api.Errno) {
	if graph.Check(g) != api.OK {
		return nil, api.ErrArgument
	}
	if g.Labels > api.MaxLetter {
		return nil, api.ErrAlphabet
	}
	if n < 0 || n > api.MaxLength {
		return nil, api.ErrRange
	}
	var list []string
	following := make(map[string]string)
	for length := range n {
		longer, e := nextWords(g, length, following)
		if e != api.OK {
			return nil, e
		}
		list = append(list, longer...)
		if len(list) > api.MaxList {
			return nil, api.ErrLimit
		}
	}
	return list, api.OK
}

// nextWords returns the minimal forbidden words of g with one letter more than a length, in order. It adds to a map which letters can follow each word of this length; the map has them for the words with one letter less.
func nextWords(g api.Graph, length int, following map[string]string) ([]string, api.Errno) {
	words, e := language.Words(g, length)
	if e != api.OK {
		return nil, e
	}
	var list []string
	for _, w := range words {
		letters, e := language.Letters(g, w)
		if e != api.OK {
			return nil, e
		}
		following[w] = letters
		for _, letter := range behindRest(g, w, following) {
			if !strings.ContainsRune(letters, letter) {
				list = append(list, w+string(letter))
			}
		}
	}
	return list, api.OK
}

// behindRest returns the letters for which a word of g with one of them behind it, without its first letter, is a word of g.
func behindRest(g api.Graph, w string, following map[string]string) string {
	if w == "" {
		return api.Letters[:g.Labels]
	}
	return following[w[1:]]
}
