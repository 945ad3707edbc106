package poly_test

import (
	"math/big"
	"regexp"
	"strings"
	"testing"

	"stadda/api"
	"stadda/num"
	"stadda/poly"
)

// P2.1: New, Parse, String, Coeffs, Degree, Equal.

func TestNew(t *testing.T) {
	for _, x := range []struct {
		l    []num.Rat
		text string
	}{
		{nil, "0"},
		{[]num.Rat{}, "0"},
		{[]num.Rat{{}}, "0"},
		{[]num.Rat{{}, {}, {}}, "0"},
		{[]num.Rat{num.Of(5)}, "5"},
		{[]num.Rat{num.Of(5), {}}, "5"},
		{[]num.Rat{{}, num.Of(1)}, "x"},
		{[]num.Rat{num.Of(-3), {}, num.Of(-1), {}, {}}, "-x^2-3"},
		{[]num.Rat{fraction(t, "1/2"), fraction(t, "-2/3"), num.Of(1)}, "x^2-2/3x+1/2"},
	} {
		f, e := poly.New(x.l)
		if e != api.OK || f.String() != x.text {
			t.Errorf("New of %v: %s, %d instead of %s", x.l, f, e, x.text)
		}
	}
}

func TestNewOfHighDegree(t *testing.T) {
	l := make([]num.Rat, 300)
	l[100] = num.Of(7)
	if f, e := poly.New(l); e != api.OK || f.String() != "7x^100" || f.Degree() != 100 {
		t.Errorf("New of degree 100 with zeros behind: %s, %d", f, e)
	}
	l[101] = num.Of(1)
	f, e := poly.New(l)
	fail(t, "New of degree 101", f, e, api.ErrDegree)
	f, e = poly.New(l[:102])
	fail(t, "New of degree 101", f, e, api.ErrDegree)
}

func TestCoefficients(t *testing.T) {
	var zero poly.Poly
	if zero.Degree() != -1 || len(zero.Coeffs()) != 0 || zero.String() != "0" {
		t.Errorf("zero value: degree %d, %v, %s", zero.Degree(), zero.Coeffs(), zero)
	}
	f := read(t, "x^3-1/2x+7")
	var texts []string
	for _, c := range f.Coeffs() {
		texts = append(texts, c.String())
	}
	if got := strings.Join(texts, " "); f.Degree() != 3 || got != "7 -1/2 0 1" {
		t.Errorf("degree %d, %s", f.Degree(), got)
	}
	if g := read(t, "-5"); g.Degree() != 0 || len(g.Coeffs()) != 1 {
		t.Errorf("a number: degree %d, %v", g.Degree(), g.Coeffs())
	}
}

func TestLargeCoefficients(t *testing.T) {
	large := new(big.Int).Lsh(big.NewInt(1), api.MaxBits)
	large.Sub(large, big.NewInt(1))
	f := ratios{new(big.Rat).SetInt(large), new(big.Rat).SetFrac(big.NewInt(-1), large), new(big.Rat).SetFrac(new(big.Int).Sub(large, big.NewInt(1)), large)}
	p := made(t, f)
	if p.String() != f.text() {
		t.Error("String")
	}
	for i, c := range p.Coeffs() {
		if c.String() != f[i].RatString() {
			t.Errorf("coefficient %d", i)
		}
	}
}

// R4: what is made of a list, and what is got from a polynomial, share no memory with others.
func TestListsAreCopied(t *testing.T) {
	room := []num.Rat{num.Of(1), num.Of(2), num.Of(3), num.Of(4)}
	f, _ := poly.New(room[:3])
	room[0], room[3] = num.Of(9), num.Of(9)
	if f.String() != "3x^2+2x+1" {
		t.Errorf("the list was kept: %s", f)
	}
	l := f.Coeffs()
	l[0] = num.Of(8)
	_ = append(l[:1], num.Of(8))
	if f.String() != "3x^2+2x+1" || f.Coeffs()[0].String() != "1" {
		t.Errorf("the coefficients are no copy: %s", f)
	}
	zeros := []num.Rat{num.Of(1), {}, {}}
	poly.New(zeros)
	if len(zeros) != 3 || zeros[0].String() != "1" {
		t.Errorf("New changed its list: %v", zeros)
	}
}

func TestCanonicalForms(t *testing.T) {
	for _, s := range []string{
		"0", "1", "-1", "7/3", "-7/3", "x", "-x", "2x", "-2x", "1/2x", "-1/2x", "x+1", "x-1", "-x+1", "x^2", "-x^2", "x^2+x", "x^2-x",
		"x^2-1/2x+3", "-2x^100+x^99-1", "10x^10-11x+12/13", "x^100", "x^99+x^10+x^9+x^2", "100/7x^20", "x+1000000000000000000000000000000",
	} {
		f := read(t, s)
		if g := of(f); g.text() != s {
			t.Errorf("%s has the coefficients %s", s, g.text())
		}
	}
}

func TestOtherStrings(t *testing.T) {
	for _, s := range []string{
		"", " ", "+", "-", "^", "/", "1x", "-1x", "1x^2", "x^1", "x^0", "2x^1", "x^", "^2", "x^02", "x^+2", "x^-1", "x^1/2", "x^2/3", "x^x", "x^2^2", "x2", "x 2", "xx", "x^2x", "X", "y", "x*x", "2*x", "x/2", "3x/2", "1/x",
		"x+", "x-", "+x", "+1", "--x", "x+-1", "x-+1", "x++1", "x--1", "-+x", "-0", "00", "01", "0x", "0x^2", "x+0", "x-0", "0+x", "-0x", "01x", "x+01", "x^2+0x+1",
		"x+x", "1+1", "1+x", "x+x^2", "x^2+x^3", "x^2+x^2", "x^3+x+x^2", "x-x", "x+1+1", "x^10+x^9+x^11", "x^9+x^10",
		"2/4x", "2/1", "2/1x", "0/1", "0/2", "1/0", "1/0x", "1/-2", "1/02", "1/", "/2", "1//2", "1/2/3", "-1/1x", "3/3x", "1/1",
		" x", "x ", "x + 1", "x+ 1", "x\n", "x+1\x00", "1.5", "1e3", "0x1", "x^\xb2", "x\xc2\xb2", "-", "x^2+-x", "١",
	} {
		f, e := poly.Parse(s)
		fail(t, "Parse of "+s, f, e, api.ErrForm)
	}
}

func TestParseLength(t *testing.T) {
	digits := strings.Repeat("7", 14000)
	if f, e := poly.Parse(digits); e != api.OK || f.String() != digits {
		t.Errorf("Parse of 14000 digits: %.20s, %d", f, e)
	}
	f, e := poly.Parse(digits + "7")
	fail(t, "Parse of 14001 digits", f, e, api.ErrLong)
	f, e = poly.Parse(strings.Repeat(" ", 14001))
	fail(t, "Parse of 14001 blanks", f, e, api.ErrLong)
	f, e = poly.Parse(strings.Repeat(" ", 14000))
	fail(t, "Parse of 14000 blanks", f, e, api.ErrForm)
	high := "x^101+" + strings.Repeat("7", 14000-6)
	f, e = poly.Parse(high)
	fail(t, "Parse of degree 101 and 14000 bytes", f, e, api.ErrDegree)
	f, e = poly.Parse(high + "7")
	fail(t, "Parse of degree 101 and 14001 bytes", f, e, api.ErrLong)
}

func TestParseDegree(t *testing.T) {
	for _, s := range []string{"x^101", "-1/2x^101+x", "x^1000+x^999-x^998", "x^18446744073709551617", "x^99999999999999999999+x^88888888888888888888", "x^18446744073709551620+x^4", "2x^" + strings.Repeat("9", 5000) + "-x^" + strings.Repeat("9", 4999)} {
		f, e := poly.Parse(s)
		fail(t, "Parse of "+s[:min(len(s), 40)], f, e, api.ErrDegree)
	}
	for _, s := range []string{"x^101+x^101", "x^101+x^102", "x^101+0", "x^101+1x", "2/2x^101", "x^0101", "x^99999999999999999999+x^99999999999999999999", "x^88888888888888888888+x^99999999999999999999", "x^4+x^18446744073709551620", "x^101 ", "x^101+x+x"} {
		f, e := poly.Parse(s)
		fail(t, "Parse of "+s, f, e, api.ErrForm)
	}
}

var (
	oneTerm = regexp.MustCompile(`^[+-]?([0-9]+(/[0-9]+)?)?(x(\^[0-9]+)?)?`)
	parts   = regexp.MustCompile(`^([+-]?)([0-9/]*)(x?)\^?([0-9]*)$`)
)

// sumOf is the sum of the terms of s, read without regard to their order and to how they are written; it is false if s cannot be read so.
func sumOf(s string) (ratios, bool) {
	var sum ratios
	for len(s) > 0 {
		text := oneTerm.FindString(s)
		m := parts.FindStringSubmatch(text)
		if text == "" || m[2]+m[3] == "" {
			return nil, false
		}
		s = s[len(text):]
		number, power := m[2], 0
		if number == "" {
			number = "1"
		}
		c, ok := new(big.Rat).SetString(m[1] + number)
		if !ok {
			return nil, false
		}
		if m[3] == "x" {
			power = 1
		}
		if m[4] != "" {
			n, _ := new(big.Int).SetString(m[4], 10)
			power = int(n.Int64())
		}
		term := make(ratios, power+1)
		for i := range term {
			term[i] = new(big.Rat)
		}
		term[power] = c
		sum = sum.plus(term)
	}
	return sum, true
}

func TestStringsLikeCanonicalForms(t *testing.T) {
	s := source{21}
	const letters = "xx^^++--//00112345"
	forms := 0
	for range 40000 {
		text := []byte(s.some(3, 4, 3).text())
		for range s.Below(3) {
			place := s.Below(len(text) + 1)
			letter := letters[s.Below(len(letters))]
			switch {
			case s.Below(3) == 0 || place == len(text):
				text = append(text[:place], append([]byte{letter}, text[place:]...)...)
			case s.Below(2) == 0:
				text[place] = letter
			default:
				text = append(text[:place], text[place+1:]...)
			}
		}
		sum, ok := sumOf(string(text))
		if len(sum) > 101 {
			continue
		}
		ok = ok && sum.text() == string(text)
		f, e := poly.Parse(string(text))
		if ok {
			forms++
			want(t, "Parse of "+string(text), f, e, sum)
		} else {
			fail(t, "Parse of "+string(text), f, e, api.ErrForm)
		}
	}
	if forms < 10000 {
		t.Errorf("%d canonical forms only", forms)
	}
}

func TestEqual(t *testing.T) {
	texts := []string{"0", "1", "-1", "1/2", "x", "2x", "1/2x", "x+1", "x-1", "x^2", "x^2+1", "x^2+x"}
	for i, a := range texts {
		for j, b := range texts {
			if read(t, a).Equal(read(t, b)) != (i == j) {
				t.Errorf("%s and %s: Equal is %t", a, b, i != j)
			}
		}
	}
	f, _ := poly.New([]num.Rat{num.Of(1), num.Of(1), {}})
	var zero poly.Poly
	if !f.Equal(read(t, "x+1")) || !zero.Equal(read(t, "0")) || zero.Equal(f) || f.Equal(zero) {
		t.Error("polynomials made otherwise")
	}
}

func TestTextsAndCoefficients(t *testing.T) {
	s := source{22}
	for range 2000 {
		f := s.some(12, 40, 9)
		p := made(t, f)
		if p.String() != f.text() || !p.Equal(read(t, f.text())) || of(p).text() != f.text() {
			t.Errorf("%s instead of %s", p, f.text())
		}
	}
}
