package rational

import (
	"strings"

	"groove/api"
	"groove/integer"
)

// Print returns the text of a.
func Print(a api.Rat) string {
	r := canonical(a)
	num := integer.Print(r.Num)
	if r.Den == integer.Of(1) {
		return num
	}
	return num + "/" + integer.Print(r.Den)
}

// Parse returns the number with the text s.
func Parse(s string) (api.Rat, api.Errno) {
	if len(s) > api.MaxText {
		return api.Rat{}, api.ErrLimit
	}
	top, bottom, divided := strings.Cut(s, "/")
	num, e := integer.Parse(top)
	if e != api.OK {
		return api.Rat{}, api.ErrSyntax
	}
	if !divided {
		return Of(num), api.OK
	}
	den, e := integer.Parse(bottom)
	r := api.Rat{Num: num, Den: den}
	if e != api.OK || den == integer.Of(1) || Check(r) != api.OK {
		return api.Rat{}, api.ErrSyntax
	}
	return r, api.OK
}
