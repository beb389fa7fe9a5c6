package integer_test

import (
	"math/big"
	"strings"
	"testing"

	"groove/api"
	"groove/integer"
)

// P1.7: the text of an integer yields it, and only negative numbers have a minus sign.
func TestTexts(t *testing.T) {
	for _, a := range samples(12, 2000) {
		s := integer.Print(a)
		b, e := integer.Parse(s)
		if e != api.OK || b != canonical(value(a)) {
			t.Fatalf("P1.7: %#v has the text %s of %#v, %d", a, s, b, e)
		}
		if strings.HasPrefix(s, "-") != (value(a).Sign() < 0) {
			t.Fatalf("P1.7: the sign of %#v: %s", a, s)
		}
	}
	for s, a := range map[string]api.Int{
		"0": {}, "7": {Mag: "\x07"}, "-7": {Neg: true, Mag: "\x07"}, "10": {Mag: "\x0a"}, "256": {Mag: "\x01\x00"}, "-300": {Neg: true, Mag: "\x01\x2c"},
		"1000000000": {Mag: "\x3b\x9a\xca\x00"}, "1000000000000000000": {Mag: "\x0d\xe0\xb6\xb3\xa7\x64\x00\x00"}, "1000000000000000001": {Mag: "\x0d\xe0\xb6\xb3\xa7\x64\x00\x01"},
	} {
		if integer.Print(a) != s {
			t.Fatalf("P1.7: Print %#v: %s", a, integer.Print(a))
		}
		if b, e := integer.Parse(s); e != api.OK || b != a {
			t.Fatalf("P1.7: Parse %s: %#v %d", s, b, e)
		}
	}
	for _, zero := range []api.Int{{Neg: true}, {Neg: true, Mag: "\x00"}, {Mag: "\x00\x00\x00\x00\x00"}} {
		if integer.Print(zero) != "0" {
			t.Fatalf("P1.7: Print %#v: %s", zero, integer.Print(zero))
		}
	}
}

// isText says whether s is the text of an integer, by its definition.
func isText(s string) bool {
	n, ok := new(big.Int).SetString(s, 10)
	return ok && n.String() == s
}

// P1.7: whatever can be parsed is the text of the result.
func TestParse(t *testing.T) {
	const letters = "-+019 a_.\x00/:"
	list := []string{""}
	for start, length := 0, 1; length <= 4; length++ {
		end := len(list)
		for ; start < end; start++ {
			for i := range len(letters) {
				list = append(list, list[start]+letters[i:i+1])
			}
		}
	}
	list = append(list, "-0", "00", "-00", "007", "-007", "--1", "-", "0x1", "1e3", "1,000", "1_000", "+7", " 7", "7 ", "7\n", "\t7", "7.0", "7/1", "\xff", "٣", "−5", "1-", "1-1", "12345678901234567890x", "-x12345678901234567890", "123456789 123456789", "0123456789012345678901234567890")
	for _, s := range list {
		a, e := integer.Parse(s)
		if !isText(s) {
			if e != api.ErrSyntax || a != (api.Int{}) {
				t.Fatalf("P1.7: Parse %q: %#v %d", s, a, e)
			}
		} else if e != api.OK || integer.Print(a) != s || integer.Check(a) != api.OK {
			t.Fatalf("P1.7: Parse %q: %#v %d", s, a, e)
		}
	}
}

// P1.7: the limit of texts.
func TestParseLimit(t *testing.T) {
	for _, s := range []string{strings.Repeat("9", api.MaxText), "-" + strings.Repeat("9", api.MaxText-1), "1" + strings.Repeat("0", api.MaxText-1), "-1" + strings.Repeat("0", api.MaxText-2)} {
		a, e := integer.Parse(s)
		n, _ := new(big.Int).SetString(s, 10)
		if e != api.OK || !same(a, n) || integer.Print(a) != s {
			t.Errorf("P1.7: Parse %.5s.. of %d bytes: %d", s, len(s), e)
		}
	}
	for _, s := range []string{strings.Repeat("9", api.MaxText+1), "-" + strings.Repeat("9", api.MaxText), strings.Repeat("x", api.MaxText+1), strings.Repeat("0", api.MaxText+1), "-" + strings.Repeat("-", 2*api.MaxText)} {
		if a, e := integer.Parse(s); e != api.ErrLimit || a != (api.Int{}) {
			t.Errorf("P1.7: Parse %.5s.. of %d bytes: %d", s, len(s), e)
		}
	}
	for _, s := range []string{strings.Repeat("x", api.MaxText), strings.Repeat("0", api.MaxText), strings.Repeat("9", api.MaxText-1) + "x"} {
		if a, e := integer.Parse(s); e != api.ErrSyntax || a != (api.Int{}) {
			t.Errorf("P1.7: Parse %.5s.. of %d bytes: %d", s, len(s), e)
		}
	}
	// A text that is longer than what can be parsed.
	long := canonical(new(big.Int).Exp(big.NewInt(10), big.NewInt(api.MaxText), nil))
	if s := integer.Print(long); s != "1"+strings.Repeat("0", api.MaxText) {
		t.Errorf("P1.7: Print 10^65536: %.5s.. of %d bytes", s, len(s))
	}
}
