package runs

import (
	"groove/api"
	"groove/word"
)

// Levels returns the levels of w from the level start on.
func Levels(start int, w string) (string, api.Errno) {
	if e := checkLevels(start, w); e != api.OK {
		return "", e
	}
	level := start
	return replace(w, func(letter int) int {
		level ^= letter
		return level
	}), api.OK
}

// Transitions returns the word whose levels from the level start on are w.
func Transitions(start int, w string) (string, api.Errno) {
	if e := checkLevels(start, w); e != api.OK {
		return "", e
	}
	level := start
	return replace(w, func(next int) int {
		change := level ^ next
		level = next
		return change
	}), api.OK
}

// checkLevels returns the first error of a binary word and a level.
func checkLevels(start int, w string) api.Errno {
	if e := checkBinary(w); e != api.OK {
		return e
	}
	if start != 0 && start != 1 {
		return api.ErrRange
	}
	return api.OK
}

// checkBinary returns the error of a word over two letters.
func checkBinary(w string) api.Errno {
	return word.Check(2, w)
}

// replace returns the word whose letters have the numbers that a function, called for the letters of w in their order, makes of theirs.
func replace(w string, with func(number int) int) string {
	letters := []byte(w)
	for i, letter := range letters {
		letters[i] = api.Letters[with(digit(letter))]
	}
	return string(letters)
}
