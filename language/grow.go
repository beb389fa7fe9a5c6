package language

import (
	"slices"

	"groove/api"
	"groove/states"
)

// lists are the words of some length of paths from some states, by the sets of their ends: words with the same ends go on in the same way.
type lists map[states.Set][]*tail

// tail is the last letter of a word, behind the word before it; nil is the empty word. (If words were copied for each letter, long ones would cost too much.)
type tail struct {
	before *tail
	letter byte
}

// start returns the empty word, which labels the paths of no edges from states of a set.
func start(from states.Set) lists {
	return lists{from: {nil}}
}

// grow returns the words with one letter more.
func (l lists) grow(m states.Moves) lists {
	longer := lists{}
	for set, words := range l {
		m.Follow(set, func(label int, ends states.Set) {
			list := longer[ends]
			for _, w := range words {
				list = append(list, &tail{w, api.Letters[label]})
			}
			longer[ends] = list
		})
	}
	return longer
}

// size returns the number of the words.
func (l lists) size() int {
	number := 0
	for _, words := range l {
		number += len(words)
	}
	return number
}

// texts returns the words of which some path ends in a state of a set, lexicographically.
func (l lists) texts(to states.Set) []string {
	var list []string
	for ends, words := range l {
		if ends&to == 0 {
			continue
		}
		for _, w := range words {
			list = append(list, w.text())
		}
	}
	slices.Sort(list)
	return list
}

// text returns the word that ends with a tail.
func (w *tail) text() string {
	var letters []byte
	for ; w != nil; w = w.before {
		letters = append(letters, w.letter)
	}
	slices.Reverse(letters)
	return string(letters)
}
