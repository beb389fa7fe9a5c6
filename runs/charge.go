package runs

import (
	"slices"

	"groove/api"
)

// Charges returns the charges of the beginnings of w, the shortest one first.
func Charges(w string) ([]int, api.Errno) {
	if e := checkBinary(w); e != api.OK {
		return nil, e
	}
	list := make([]int, 1, len(w)+1)
	for i, letter := range []byte(w) {
		list = append(list, list[i]+2*digit(letter)-1)
	}
	return list, api.OK
}

// Disparity returns the charge of w.
func Disparity(w string) (int, api.Errno) {
	list, e := Charges(w)
	if e != api.OK {
		return 0, e
	}
	return list[len(w)], api.OK
}

// Range returns the least and the greatest charge of the beginnings of w.
func Range(w string) (int, int, api.Errno) {
	list, e := Charges(w)
	if e != api.OK {
		return 0, 0, e
	}
	return slices.Min(list), slices.Max(list), api.OK
}
