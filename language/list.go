package language

import (
	"strings"

	"groove/api"
	"groove/states"
	"groove/word"
)

// Words returns all words of g of n letters, lexicographically.
func Words(g api.Graph, n int) ([]string, api.Errno) {
	if e := checkList(g, n); e != api.OK {
		return nil, e
	}
	return between(g, states.Every(g), states.Every(g), n)
}

// From returns the words of n letters of paths that begin in the state s, lexicographically.
func From(g api.Graph, s, n int) ([]string, api.Errno) {
	if e := checkList(g, n, s); e != api.OK {
		return nil, e
	}
	return between(g, states.Of(s), states.Every(g), n)
}

// Between returns the words of n letters of paths from the state s to the state t, lexicographically.
func Between(g api.Graph, s, t, n int) ([]string, api.Errno) {
	if e := checkList(g, n, s, t); e != api.OK {
		return nil, e
	}
	return between(g, states.Of(s), states.Of(t), n)
}

// Missing returns the first word of at most n letters that is no word of g, and whether there is one.
func Missing(g api.Graph, n int) (string, bool, api.Errno) {
	if e := checkList(g, n); e != api.OK {
		return "", false, e
	}
	m := states.MovesOf(g)
	l := start(states.Every(g))
	for length := range n + 1 {
		// A word that is missing counts even if there are too many others of its length.
		if w, is := absent(g.Labels, length, l.texts(states.Every(g))); is {
			return w, true, api.OK
		}
		if l.size() > api.MaxList {
			return "", false, api.ErrLimit
		}
		l = l.grow(m)
	}
	return "", false, api.OK
}

// between returns the words of n letters of paths from states of a set to states of another one, lexicographically, or ErrLimit if there are too many words of up to n letters of paths from the former.
func between(g api.Graph, from, to states.Set, n int) ([]string, api.Errno) {
	m := states.MovesOf(g)
	l := start(from)
	for range n {
		l = l.grow(m)
		if l.size() > api.MaxList {
			return nil, api.ErrLimit
		}
	}
	return l.texts(to), api.OK
}

// absent returns the first word of a length over q letters that does not stand in a list of such words, which ascends, and whether there is one.
func absent(q, length int, list []string) (string, bool) {
	next := strings.Repeat(api.Letters[:1], length)
	for _, w := range list {
		if w != next {
			return next, true
		}
		next, _ = word.Next(q, w)
	}
	// Behind the last word of a length stands one that is longer.
	return next, len(next) == length
}
