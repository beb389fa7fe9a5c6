package integer_test

import (
	"math"
	"math/big"
	"math/rand"
	"strconv"
	"strings"
	"testing"

	"groove/api"
	"groove/integer"
)

// P1.1: the examples of the chapter.
func TestExamples(t *testing.T) {
	square := product(twoTo(32, 0), twoTo(32, 0))
	if integer.Print(square) != "18446744073709551616" || integer.Bits(square) != 65 {
		t.Errorf("P1.1: the square of 2^32: %#v %#v", integer.Print(square), integer.Bits(square))
	}
	for _, c := range []struct{ a, b, q, r int }{{-7, 2, -4, 1}, {7, -2, -4, -1}} {
		q, r, e := integer.Div(integer.Of(c.a), integer.Of(c.b))
		if e != api.OK || q != integer.Of(c.q) || r != integer.Of(c.r) {
			t.Errorf("P1.1: Div: %#v %#v %#v %#v", c, q, r, e)
		}
	}
	if r, e := integer.Root(integer.Of(10), 2); e != api.OK || integer.Print(r) != "3" {
		t.Errorf("P1.1: Root: %#v %#v", r, e)
	}
	if p, e := integer.Power(integer.Of(-3), 5); e != api.OK || integer.Print(p) != "-243" {
		t.Errorf("P1.1: Power: %#v %#v", p, e)
	}
}

// P1.1: functions of one integer against the definitions.
func TestOne(t *testing.T) {
	for _, a := range samples(1, 2000) {
		n := value(a)
		want := api.OK
		if a != canonical(n) {
			want = api.ErrArgument
		}
		if e := integer.Check(a); e != want {
			t.Fatalf("P1.1: Check %#v: %d", a, e)
		}
		if b := integer.Neg(a); !same(b, new(big.Int).Neg(n)) {
			t.Fatalf("P1.1: Neg %#v: %#v", a, b)
		}
		if k := integer.Bits(a); k != n.BitLen() {
			t.Fatalf("P1.1: Bits %#v: %d", a, k)
		}
		if s := integer.Print(a); s != n.String() {
			t.Fatalf("P1.1: Print %#v: %s", a, s)
		}
		if b, e := integer.Parse(n.String()); e != api.OK || !same(b, n) {
			t.Fatalf("P1.1: Parse %s: %#v %d", n, b, e)
		}
		k, is := integer.Small(a)
		if is != n.IsInt64() || is && int64(k) != n.Int64() || !is && k != 0 {
			t.Fatalf("P1.1: Small %#v: %d %#v", a, k, is)
		}
	}
}

// P1.1: functions of two integers against the definitions.
func TestTwo(t *testing.T) {
	pairs(2, 20000, func(a, b api.Int) {
		m, n := value(a), value(b)
		if s := integer.Add(a, b); !same(s, new(big.Int).Add(m, n)) {
			t.Fatalf("P1.1: %s + %s: %#v", m, n, s)
		}
		if d := integer.Sub(a, b); !same(d, new(big.Int).Sub(m, n)) {
			t.Fatalf("P1.1: %s - %s: %#v", m, n, d)
		}
		if p := integer.Mul(a, b); !same(p, new(big.Int).Mul(m, n)) {
			t.Fatalf("P1.1: %s * %s: %#v", m, n, p)
		}
		if c := integer.Compare(a, b); c != m.Cmp(n) {
			t.Fatalf("P1.1: Compare %s and %s: %d", m, n, c)
		}
		if g := integer.Gcd(a, b); !same(g, new(big.Int).GCD(nil, nil, new(big.Int).Abs(m), new(big.Int).Abs(n))) {
			t.Fatalf("P1.1: Gcd %s and %s: %#v", m, n, g)
		}
		checkDiv(t, a, b)
	})
}

// checkDiv compares a division with the one that is rounded towards 0.
func checkDiv(t *testing.T, a, b api.Int) {
	t.Helper()
	m, n := value(a), value(b)
	q, r, e := integer.Div(a, b)
	if n.Sign() == 0 {
		if e != api.ErrDivide || q != (api.Int{}) || r != (api.Int{}) {
			t.Fatalf("P1.1: %s by 0: %#v %#v %d", m, q, r, e)
		}
		return
	}
	quotient, rest := new(big.Int).QuoRem(m, n, new(big.Int))
	if rest.Sign() != 0 && rest.Sign() != n.Sign() {
		quotient.Sub(quotient, big.NewInt(1))
		rest.Add(rest, n)
	}
	if e != api.OK || !same(q, quotient) || !same(r, rest) {
		t.Fatalf("P1.1: %s by %s: %#v %#v %d", m, n, q, r, e)
	}
}

// P1.2: the laws of rings.
func TestRing(t *testing.T) {
	r := rand.New(rand.NewSource(3))
	list := samples(4, 200)
	for range 20000 {
		a, b, c := list[r.Intn(len(list))], list[r.Intn(len(list))], list[r.Intn(len(list))]
		if sum(a, b) != sum(b, a) || product(a, b) != product(b, a) {
			t.Fatalf("P1.2: %#v and %#v do not commute", a, b)
		}
		if sum(sum(a, b), c) != sum(a, sum(b, c)) || product(product(a, b), c) != product(a, product(b, c)) {
			t.Fatalf("P1.2: %#v, %#v and %#v are not associative", a, b, c)
		}
		if product(a, sum(b, c)) != sum(product(a, b), product(a, c)) {
			t.Fatalf("P1.2: %#v is not distributed over %#v and %#v", a, b, c)
		}
		if integer.Compare(integer.Sub(sum(a, b), b), a) != 0 || sum(integer.Sub(a, b), b) != integer.Add(a, api.Int{}) {
			t.Fatalf("P1.2: subtracting %#v from %#v does not undo adding", b, a)
		}
		if sum(a, integer.Neg(a)) != (api.Int{}) || integer.Sub(a, b) != sum(a, integer.Neg(b)) {
			t.Fatalf("P1.2: the opposites of %#v and %#v", a, b)
		}
	}
}

// P1.2: what is canonical, and that all results are.
func TestCanonical(t *testing.T) {
	for _, a := range []api.Int{{}, {Mag: "\x01"}, {Neg: true, Mag: "\x01"}, {Mag: "\x01\x00"}, {Mag: "\xff\x00\x00"}, {Neg: true, Mag: "0"}} {
		if e := integer.Check(a); e != api.OK {
			t.Errorf("P1.2: Check %#v: %d", a, e)
		}
	}
	for _, a := range loose() {
		if e := integer.Check(a); e != api.ErrArgument {
			t.Errorf("P1.2: Check %#v: %d", a, e)
		}
	}
	list := edges()
	for _, a := range list {
		checkCanonical(t, "Neg", integer.Neg(a))
		for n := range 4 {
			p, _ := integer.Power(a, n)
			r, _ := integer.Root(a, n)
			checkCanonical(t, "Power", p)
			checkCanonical(t, "Root", r)
		}
		for _, b := range list {
			q, r, _ := integer.Div(a, b)
			for _, c := range []api.Int{sum(a, b), integer.Sub(a, b), product(a, b), q, r, integer.Gcd(a, b)} {
				checkCanonical(t, "a result", c)
			}
		}
	}
}

// checkCanonical says what is not canonical, by the definition and by Check.
func checkCanonical(t *testing.T, what string, a api.Int) {
	t.Helper()
	if strings.HasPrefix(a.Mag, "\x00") || a.Neg && a.Mag == "" || integer.Check(a) != api.OK {
		t.Fatalf("P1.2: %s is not canonical: %#v", what, a)
	}
}

// P1.3: integers and ints.
func TestInts(t *testing.T) {
	for _, n := range []int{0, 1, -1, 5, -5, 127, 128, -128, 255, 256, -256, 65535, 65536, 1<<31 - 1, 1 << 31, -1 << 31, 1<<32 - 1, 1 << 32, -1 << 32, 1 << 62, math.MaxInt - 1, math.MaxInt, math.MinInt, math.MinInt + 1} {
		a := integer.Of(n)
		if !same(a, big.NewInt(int64(n))) {
			t.Errorf("P1.3: Of %d: %#v", n, a)
		}
		if k, is := integer.Small(a); k != n || !is {
			t.Errorf("P1.3: Small %d: %d %#v", n, k, is)
		}
		if k, is := integer.Small(api.Int{Neg: a.Neg, Mag: "\x00\x00" + a.Mag}); k != n || !is {
			t.Errorf("P1.3: Small of %d with zeros: %d %#v", n, k, is)
		}
		if s := integer.Print(a); s != strconv.Itoa(n) {
			t.Errorf("P1.3: Print %d: %s", n, s)
		}
	}
	for _, s := range []string{"9223372036854775808", "9223372036854775809", "-9223372036854775809", "-9223372036854775810", "18446744073709551615", "18446744073709551616", "-18446744073709551616", "18446744073709551617", "-18446744073709551617", "27670116110564327424", "100000000000000000000000000000000000000000"} {
		if n, is := integer.Small(number(t, s)); n != 0 || is {
			t.Errorf("P1.3: Small %s: %d %#v", s, n, is)
		}
	}
}

// P1.3: the machine computes the same with small numbers.
func TestMachine(t *testing.T) {
	for m := -70; m <= 70; m++ {
		for n := -70; n <= 70; n++ {
			checkMachine(t, m, n)
		}
	}
	r := rand.New(rand.NewSource(5))
	for range 5000 {
		checkMachine(t, r.Intn(1<<31)-1<<30, r.Intn(1<<31)-1<<30)
		checkMachine(t, r.Intn(1<<31)-1<<30, r.Intn(2000)-1000)
	}
}

// checkMachine compares the results for two small numbers with the machine's.
func checkMachine(t *testing.T, m, n int) {
	t.Helper()
	a, b := integer.Of(m), integer.Of(n)
	if sum(a, b) != integer.Of(m+n) || integer.Sub(a, b) != integer.Of(m-n) || product(a, b) != integer.Of(m*n) || integer.Neg(a) != integer.Of(-m) {
		t.Fatalf("P1.3: %d and %d", m, n)
	}
	order := 0
	if m < n {
		order = -1
	} else if m > n {
		order = 1
	}
	if integer.Compare(a, b) != order {
		t.Fatalf("P1.3: Compare %d and %d", m, n)
	}
	if n == 0 {
		return
	}
	quotient, rest := m/n, m%n
	if rest != 0 && (rest < 0) != (n < 0) {
		quotient, rest = quotient-1, rest+n
	}
	q, r, e := integer.Div(a, b)
	if q != integer.Of(quotient) || r != integer.Of(rest) || e != api.OK {
		t.Fatalf("P1.3: %d by %d: %#v %#v %d", m, n, q, r, e)
	}
}

// P1.4: quotients and remainders.
func TestDivision(t *testing.T) {
	pairs(6, 30000, func(a, b api.Int) {
		q, r, e := integer.Div(a, b)
		if value(b).Sign() == 0 {
			if e != api.ErrDivide || q != (api.Int{}) || r != (api.Int{}) {
				t.Fatalf("P1.4: %#v by %#v: %#v %#v %d", a, b, q, r, e)
			}
			return
		}
		rest := value(r)
		if e != api.OK || integer.Compare(sum(product(q, b), r), a) != 0 {
			t.Fatalf("P1.4: %#v by %#v: %#v %#v %d", a, b, q, r, e)
		}
		if rest.Sign() != 0 && rest.Sign() != value(b).Sign() || rest.CmpAbs(value(b)) >= 0 {
			t.Fatalf("P1.4: %#v by %#v: the remainder %#v", a, b, r)
		}
	})
}

// P1.4: products with and without a remainder, and numerators in which the first estimate of a digit is too great.
func TestLongDivision(t *testing.T) {
	r := rand.New(rand.NewSource(7))
	for i := range 30000 {
		b := api.Int{Neg: r.Intn(2) == 0, Mag: string(rune('a'+r.Intn(26))) + blocks(r, 1+i%40)}
		q := random(r, 1+i/11%40)
		a := product(b, q)
		checkDiv(t, a, b)
		checkDiv(t, sum(a, integer.Of(1)), b)
		checkDiv(t, integer.Sub(a, integer.Of(1)), b)
	}
	for _, bytes := range []uint{1, 2, 4, 8} {
		for size := uint(2); size < 6; size++ {
			bits := 8 * bytes
			// The first digits say the greatest digit of the quotient, the later ones a lesser one.
			a := integer.Sub(twoTo(bits*(2*size)-1, 0), twoTo(bits, 0))
			for d := int64(-2); d <= 2; d++ {
				checkDiv(t, a, sum(twoTo(bits*size-1, 0), twoTo(bits-1, d)))
				checkDiv(t, a, sum(twoTo(bits*size-1, 0), twoTo(bits, d)))
				checkDiv(t, integer.Sub(product(a, twoTo(bits, 0)), integer.Of(1)), twoTo(bits*size, d))
			}
		}
	}
}

// quotient returns a / b, which has no remainder.
func quotient(t *testing.T, a, b api.Int) api.Int {
	t.Helper()
	q, r, e := integer.Div(a, b)
	if e != api.OK || r != (api.Int{}) {
		t.Fatalf("P1.5: %#v does not divide %#v: %#v %d", b, a, r, e)
	}
	return q
}

// P1.5: greatest common divisors.
func TestDivisors(t *testing.T) {
	for _, c := range []struct{ a, b, g int }{{0, 0, 0}, {0, 7, 7}, {-7, 0, 7}, {12, 18, 6}, {-12, 18, 6}, {12, -18, 6}, {-12, -18, 6}, {1, -1, 1}, {17, 4, 1}, {8, 8, 8}, {-3, -9, 3}} {
		if g := integer.Gcd(integer.Of(c.a), integer.Of(c.b)); g != integer.Of(c.g) {
			t.Fatalf("P1.5: Gcd %d and %d: %#v", c.a, c.b, g)
		}
	}
	if g := integer.Gcd(api.Int{Neg: true, Mag: "\x00"}, api.Int{Neg: true, Mag: "\x00\x04"}); g != integer.Of(4) {
		t.Errorf("P1.5: Gcd of integers that are not canonical: %#v", g)
	}
	r := rand.New(rand.NewSource(8))
	pairs(9, 5000, func(a, b api.Int) {
		g := integer.Gcd(a, b)
		c := random(r, 12)
		scaled := product(g, api.Int{Mag: c.Mag})
		if integer.Gcd(product(a, c), product(b, c)) != scaled {
			t.Fatalf("P1.5: Gcd of %#v and %#v, multiplied by %#v", a, b, c)
		}
		if g == (api.Int{}) {
			if value(a).Sign() != 0 || value(b).Sign() != 0 {
				t.Fatalf("P1.5: Gcd of %#v and %#v is 0", a, b)
			}
			return
		}
		if g.Neg || integer.Gcd(quotient(t, a, g), quotient(t, b, g)) != integer.Of(1) {
			t.Fatalf("P1.5: Gcd of %#v and %#v: %#v", a, b, g)
		}
	})
}

// P1.5: successive Fibonacci numbers take the most steps.
func TestManySteps(t *testing.T) {
	a, b := integer.Of(0), integer.Of(1)
	for range 1000 {
		a, b = b, sum(a, b)
		if g := integer.Gcd(a, b); g != integer.Of(1) {
			t.Fatalf("P1.5: Gcd of successive numbers: %#v", g)
		}
	}
	c := twoTo(200, -1)
	if g := integer.Gcd(product(a, c), integer.Neg(product(b, c))); g != c {
		t.Errorf("P1.5: Gcd: %#v", g)
	}
}
