package sum_test

import (
	"fmt"
	"math/big"
	"strings"
	"testing"

	"stadda/api"
	"stadda/num"
	"stadda/poly"
	"stadda/sum"
)

// P3.1: Difference, Sum, Binomials, FromBinomials, Whole.

func TestExamplesOfDifferences(t *testing.T) {
	for _, x := range []struct{ f, difference, sum, binomials string }{
		{"0", "0", "0", "[]"},
		{"7", "0", "7x", "[7]"},
		{"-1/2", "0", "-1/2x", "[-1/2]"},
		{"x", "1", "1/2x^2-1/2x", "[0 1]"},
		{"1/2x^2-1/2x", "x", "1/6x^3-1/2x^2+1/3x", "[0 0 1]"},
		{"x^2", "2x+1", "1/3x^3-1/2x^2+1/6x", "[0 1 2]"},
		{"x^3", "3x^2+3x+1", "1/4x^4-1/2x^3+1/4x^2", "[0 1 6 6]"},
		{"x^3+5", "3x^2+3x+1", "1/4x^4-1/2x^3+1/4x^2+5x", "[5 1 6 6]"},
	} {
		f := read(t, x.f)
		if g, e := sum.Difference(f); e != api.OK || g.String() != x.difference {
			t.Errorf("Difference of %s: %s, %d", f, g, e)
		}
		if g, e := sum.Sum(f); e != api.OK || g.String() != x.sum {
			t.Errorf("Sum of %s: %s, %d", f, g, e)
		}
		if l, e := sum.Binomials(f); e != api.OK || fmt.Sprint(l) != x.binomials {
			t.Errorf("Binomials of %s: %v, %d", f, l, e)
		}
	}
}

func TestDifferencesBySubstitution(t *testing.T) {
	s := source{301}
	for range 300 {
		f := s.some(8, 30, 6)
		g, e := sum.Difference(made(t, f))
		want(t, "Difference of "+made(t, f).String(), g, e, f.shifted(1).minus(f))
	}
}

func TestSumsByTheirDifferences(t *testing.T) {
	s := source{302}
	for range 300 {
		f := s.some(8, 30, 6)
		g, e := sum.Sum(made(t, f))
		if e != api.OK || of(g).at(0).Sign() != 0 {
			t.Errorf("Sum of %s: %s, %d", made(t, f), g, e)
		}
		want(t, "the difference of the sum", made(t, of(g).shifted(1).minus(of(g))), api.OK, f)
	}
}

func TestBinomialsByTheirDefinition(t *testing.T) {
	s := source{303}
	for range 300 {
		f := s.some(8, 30, 6)
		l, e := sum.Binomials(made(t, f))
		if e != api.OK || len(l) != len(f) {
			t.Errorf("Binomials of %s: %v, %d", made(t, f), l, e)
		}
		var b []*big.Rat
		for _, c := range l {
			b = append(b, ratio(c))
		}
		want(t, "the polynomial of the binomial coefficients", made(t, combined(b)), api.OK, f)
	}
}

func TestFromBinomials(t *testing.T) {
	s := source{304}
	for range 300 {
		l := s.some(8, 30, 6)
		f, e := sum.FromBinomials(list(t, l))
		want(t, "FromBinomials", f, e, combined(l))
		zeros := append(list(t, l), num.Rat{}, num.Rat{})
		f, e = sum.FromBinomials(zeros)
		want(t, "FromBinomials with zeros at the end", f, e, combined(l))
	}
	for _, l := range [][]num.Rat{nil, {}, {{}}, make([]num.Rat, 31)} {
		if f, e := sum.FromBinomials(l); e != api.OK || f.Degree() != -1 {
			t.Errorf("FromBinomials of %v: %s, %d", l, f, e)
		}
	}
}

// R4.
func TestListsOfBinomialsAreNotChanged(t *testing.T) {
	room := []num.Rat{num.Of(1), num.Of(2), {}, num.Of(4)}
	f, _ := sum.FromBinomials(room[:3])
	if f.String() != "2x+1" || fmt.Sprint(room) != "[1 2 0 4]" {
		t.Errorf("%s, %v", f, room)
	}
	first, _ := sum.Binomials(f)
	first[0] = num.Of(9)
	_ = append(first[:1], num.Of(9))
	if second, _ := sum.Binomials(f); fmt.Sprint(second) != "[1 2]" || f.String() != "2x+1" {
		t.Errorf("%v, %s", second, f)
	}
}

// highest is a polynomial of degree 30 with coefficients of 40 digits.
func highest() ratios {
	var f ratios
	for i := range int64(31) {
		over, _ := new(big.Int).SetString(digits(40), 10)
		under := new(big.Int).Sub(over, big.NewInt(11*i+1))
		f = append(f, new(big.Rat).SetFrac(over.Mul(over, big.NewInt(1-2*(i%2))), under))
	}
	return f
}

func TestHighestPolynomials(t *testing.T) {
	f := highest()
	p := made(t, f)
	g, e := sum.Difference(p)
	want(t, "Difference", g, e, f.shifted(1).minus(f))
	g, e = sum.Sum(p)
	if e != api.OK || g.Degree() != 31 || of(g).at(0).Sign() != 0 {
		t.Errorf("Sum: degree %d, %d", g.Degree(), e)
	}
	want(t, "the difference of the sum", made(t, of(g).shifted(1).minus(of(g))), api.OK, f)
	l, e := sum.Binomials(p)
	var b []*big.Rat
	for _, c := range l {
		b = append(b, ratio(c))
	}
	want(t, "the polynomial of the binomial coefficients", made(t, combined(b)), e, f)
	g, e = sum.FromBinomials(list(t, f))
	want(t, "FromBinomials", g, e, combined(f))
	if n, is, e := sum.Whole(p); n != 0 || is || e != api.OK {
		t.Errorf("Whole: %d, %t, %d", n, is, e)
	}
}

func TestLimitsOfDifferences(t *testing.T) {
	for _, x := range []struct {
		f string
		e api.Errno
	}{
		{"x^31", api.ErrDegree},
		{"x^100", api.ErrDegree},
		{"x^31+" + digits(41), api.ErrDegree},
		{digits(41) + "x^31", api.ErrDegree},
		{digits(41), api.ErrSize},
		{"-" + digits(41), api.ErrSize},
		{digits(41) + "x^30", api.ErrSize},
		{"1" + strings.Repeat("0", 40) + "x", api.ErrSize},
		{"-1" + strings.Repeat("0", 40) + "x^2+x", api.ErrSize},
		{"x^30-1/" + digits(41), api.ErrSize},
		{"1/1" + strings.Repeat("0", 40) + "x^3", api.ErrSize},
		{digits(9000), api.ErrSize},
		{"x^30", api.OK},
		{"-" + digits(40) + "x^30", api.OK},
		{strings.Repeat("9", 40), api.OK},
		{"x^30-1/" + strings.Repeat("9", 40) + "x", api.OK},
	} {
		f := read(t, x.f)
		g, d := sum.Difference(f)
		s, e := sum.Sum(f)
		l, h := sum.Binomials(f)
		_, is, w := sum.Whole(f)
		if d != x.e || e != x.e || h != x.e || w != x.e {
			t.Errorf("%.60s: %d, %d, %d, %d instead of %d", x.f, d, e, h, w, x.e)
		}
		if x.e != api.OK && (g.Degree() != -1 || s.Degree() != -1 || len(l) != 0 || is) {
			t.Errorf("%.60s: results next to the error", x.f)
		}
	}
}

func TestLimitsOfFromBinomials(t *testing.T) {
	short, long := fraction(t, digits(40)), fraction(t, digits(41))
	with := func(n, place int, r num.Rat) []num.Rat {
		l := make([]num.Rat, n)
		l[place] = r
		return l
	}
	for i, x := range []struct {
		l []num.Rat
		e api.Errno
	}{
		{with(31, 30, short), api.OK},
		{with(31, 30, short.Neg()), api.OK},
		{with(31, 0, fraction(t, "1/"+digits(40))), api.OK},
		{with(31, 30, long), api.ErrSize},
		{with(31, 0, long.Neg()), api.ErrSize},
		{with(1, 0, fraction(t, "1/"+digits(41))), api.ErrSize},
		{with(3, 1, fraction(t, "-1/1"+strings.Repeat("0", 40))), api.ErrSize},
		{with(32, 31, short), api.ErrDegree},
		{with(32, 0, short), api.ErrDegree},
		{with(32, 0, long), api.ErrDegree},
		{with(500, 3, long), api.ErrDegree},
	} {
		f, e := sum.FromBinomials(x.l)
		if e != x.e || e != api.OK && f.Degree() != -1 {
			t.Errorf("list %d: %s, %d instead of %d", i, f, e, x.e)
		}
	}
}

func checkWhole(t *testing.T, f poly.Poly, at int64, want bool) {
	t.Helper()
	if n, is, e := sum.Whole(f); n != at || is != want || e != api.OK {
		t.Errorf("Whole of %s: %d, %t, %d instead of %d, %t", f, n, is, e, at, want)
	}
}

func TestWhole(t *testing.T) {
	for _, x := range []struct {
		f    string
		at   int64
		want bool
	}{
		{"0", 0, true}, {"-3", 0, true}, {"1/2", 0, false}, {"x", 0, true}, {"1/2x", 1, false}, {"1/2x+1/2", 0, false},
		{"1/2x^2-1/2x", 0, true}, {"1/2x^2+1/2x", 0, true}, {"1/2x^2", 1, false}, {"1/2x^2+1/2x+1/3", 0, false},
		{"1/6x^3-1/6x", 0, true}, {"1/6x^3-1/2x^2+1/3x", 0, true}, {"1/3x^3-1/3x", 0, true}, {"1/4x^2-1/4x", 2, false},
		{"1/12x^3-1/4x^2+1/6x", 3, false}, {"1/5x^5-1/5x", 0, true}, {"1/4x^4-1/4x^2", 0, true}, {"1/8x^4-1/8x^2", 2, false},
	} {
		checkWhole(t, read(t, x.f), x.at, x.want)
	}
}

// A fraction as one binomial coefficient shows first at its place.
func TestPlacesThatAreNotWhole(t *testing.T) {
	s := source{305}
	for place := range 31 {
		var l []*big.Rat
		for range 31 {
			l = append(l, big.NewRat(int64(s.From(-99, 99)), 1))
		}
		f, e := sum.FromBinomials(list(t, l))
		want(t, "FromBinomials", f, e, combined(l))
		checkWhole(t, f, 0, true)
		for behind := place; behind < 31; behind += s.From(1, 9) {
			l[behind] = big.NewRat(int64(3*s.From(-99, 99)+1), 3)
		}
		f, _ = sum.FromBinomials(list(t, l))
		checkWhole(t, f, int64(place), false)
	}
}

func TestWholeByValues(t *testing.T) {
	s := source{306}
	for range 500 {
		f := s.some(4, 6, 2)
		at, is := int64(0), true
		for n := int64(30); n >= 0; n-- {
			if !f.value(n).IsInt() {
				at, is = n, false
			}
		}
		checkWhole(t, made(t, f), at, is)
	}
}
