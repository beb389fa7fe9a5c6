package rational_test

import (
	"math/big"
	"strings"
	"testing"

	"groove/api"
	"groove/integer"
	"groove/rational"
)

// P2.7: parsing the text of a number yields it.
func TestTexts(t *testing.T) {
	for _, a := range samples(14, 2000) {
		s := rational.Print(a)
		if b, e := rational.Parse(s); e != api.OK || b != canonical(value(a)) {
			t.Fatalf("P2.7: %#v has the text %s of %#v, %d", a, s, b, e)
		}
		if strings.HasPrefix(s, "-") != (value(a).Sign() < 0) || strings.Contains(s, "/") == value(a).IsInt() {
			t.Fatalf("P2.7: the text of %#v: %s", a, s)
		}
	}
	for _, c := range []struct {
		a api.Rat
		s string
	}{
		{raw(0, 1), "0"}, {api.Rat{}, "0"}, {raw(5, 0), "0"}, {raw(0, -4), "0"}, {raw(1, 1), "1"}, {raw(-1, 1), "-1"}, {raw(12, -4), "-3"}, {raw(1, 2), "1/2"}, {raw(6, -4), "-3/2"}, {raw(-6, -4), "3/2"}, {raw(1, 1000), "1/1000"}, {raw(-1000, 999), "-1000/999"},
	} {
		if s := rational.Print(c.a); s != c.s {
			t.Errorf("P2.7: Print %#v: %s", c.a, s)
		}
		if r, e := rational.Parse(c.s); e != api.OK || r != canonical(value(c.a)) {
			t.Errorf("P2.7: Parse %s: %#v %d", c.s, r, e)
		}
	}
}

// isText says whether s is the text of a number, by its definition.
func isText(s string) bool {
	r, ok := new(big.Rat).SetString(s)
	return ok && r.RatString() == s
}

// P2.7: whatever can be parsed is the text of the result.
func TestParse(t *testing.T) {
	const letters = "-+0126/ ."
	list := []string{""}
	for start, length := 0, 1; length <= 5; length++ {
		end := len(list)
		for ; start < end; start++ {
			for i := range len(letters) {
				list = append(list, list[start]+letters[i:i+1])
			}
		}
	}
	list = append(list,
		"6/4", "3/1", "0/1", "-3/1", "-0/1", "0/5", "1/0", "0/0", "-1/0", "7/7", "-6/4", "100/10", "12345678901234567890/5",
		"1/-2", "-1/-2", "1/--2", "--1/2", "+1/2", "1/+2", "01/2", "1/02", "1/2/3", "1/2/", "/2", "1/", "/", "//", "-/2", "1//2", " 1/2", "1 /2", "1/ 2", "1/2 ", "1/2\n", "1.5", "1e3", "1/2e1", "0x1/2", "1_0/3", "\xff", "1/\x00", "\u0661/2", "1\u20442", "-3/2", "17", "1000000000000000000001/1000000000000000000000", "x", "1/x", "x/2")
	for _, s := range list {
		r, e := rational.Parse(s)
		if !isText(s) {
			if e != api.ErrSyntax || r != (api.Rat{}) {
				t.Fatalf("P2.7: Parse %q: %#v %d", s, r, e)
			}
		} else if e != api.OK || rational.Print(r) != s || rational.Check(r) != api.OK {
			t.Fatalf("P2.7: Parse %q: %#v %d", s, r, e)
		}
	}
}

// P2.7: the limit of texts.
func TestParseLimit(t *testing.T) {
	nines := strings.Repeat("9", api.MaxText)
	half := api.MaxText / 2
	for _, s := range []string{nines, "-" + nines[1:], "1/" + nines[2:], "-1/" + nines[3:], nines[2:] + "/2", "-" + nines[3:] + "/5", nines[half:] + "/1" + strings.Repeat("0", half-2)} {
		r, e := rational.Parse(s)
		if want, _ := new(big.Rat).SetString(s); len(s) != api.MaxText || e != api.OK || !same(r, want) || rational.Print(r) != s {
			t.Errorf("P2.7: Parse %.8s.. of %d bytes: %d", s, len(s), e)
		}
	}
	for _, s := range []string{nines + "9", "-" + nines, "1/" + nines[1:], "2/" + nines[1:], strings.Repeat("x", api.MaxText+1), strings.Repeat("/", 2*api.MaxText), strings.Repeat("0", api.MaxText+1), "0/" + nines} {
		if r, e := rational.Parse(s); e != api.ErrLimit || r != (api.Rat{}) {
			t.Errorf("P2.7: Parse %.8s.. of %d bytes: %d", s, len(s), e)
		}
	}
	for _, s := range []string{strings.Repeat("x", api.MaxText), strings.Repeat("/", api.MaxText), "3/" + nines[2:], nines[2:] + "/1", nines[2:] + "/3", nines[1:] + "/"} {
		if r, e := rational.Parse(s); e != api.ErrSyntax || r != (api.Rat{}) {
			t.Errorf("P2.7: Parse %.8s.. of %d bytes: %d", s, len(s), e)
		}
	}
	// A text that is longer than what can be parsed.
	long := integer.Neg(whole(new(big.Int).Exp(big.NewInt(10), big.NewInt(api.MaxText), nil)))
	if s := rational.Print(api.Rat{Num: long, Den: integer.Of(7)}); s != "-1"+strings.Repeat("0", api.MaxText)+"/7" {
		t.Errorf("P2.7: Print: %.8s.. of %d bytes", s, len(s))
	}
}
