package poly_test

import (
	"math/big"
	"testing"

	"stadda/api"
	"stadda/num"
	"stadda/poly"
)

// P2.3: Gcd, Bezout, Resultant, and the limits of all functions that look for divisors.

// asked are the results of a function of P2.3 as text, and its error.
type asked func(f, g poly.Poly) (string, api.Errno)

// ofTwo are the functions of two polynomials.
var ofTwo = map[string]asked{
	"Gcd": func(f, g poly.Poly) (string, api.Errno) {
		d, e := poly.Gcd(f, g)
		return d.String(), e
	},
	"Bezout": func(f, g poly.Poly) (string, api.Errno) {
		d, u, v, e := poly.Bezout(f, g)
		return d.String() + u.String() + v.String(), e
	},
	"Resultant": func(f, g poly.Poly) (string, api.Errno) {
		r, e := poly.Resultant(f, g)
		return r.String(), e
	},
	"Spread": func(f, g poly.Poly) (string, api.Errno) {
		l, e := poly.Spread(f, g)
		return shown(l), e
	},
}

// ofOne are the functions of one polynomial.
var ofOne = map[string]asked{
	"Free": func(f, _ poly.Poly) (string, api.Errno) {
		l, e := poly.Free(f)
		return listed(l), e
	},
	"Factor": func(f, _ poly.Poly) (string, api.Errno) {
		c, l, e := poly.Factor(f)
		return c.String() + listed(l), e
	},
	"Roots": func(f, _ poly.Poly) (string, api.Errno) {
		l, e := poly.Roots(f)
		return shown(l), e
	},
}

// nothing are the results next to an error.
var nothing = map[string]string{"Gcd": "0", "Bezout": "000", "Resultant": "0", "Spread": "", "Free": "", "Factor": "0", "Roots": ""}

func TestLimitsOfOnePolynomial(t *testing.T) {
	for name, ask := range ofOne {
		for s, want := range map[string]api.Errno{
			"x^12": api.OK, "x^13": api.ErrDegree, "x^100+1": api.ErrDegree,
			"999999999999999x": api.OK, "-999999999999999x": api.OK, "1/999999999999999x": api.OK, "-1/999999999999999x": api.OK, "x-999999999999998/999999999999999": api.OK,
			"1000000000000000x": api.ErrSize, "-1000000000000000x": api.ErrSize, "1/1000000000000000x": api.ErrSize, "x-1/1000000000000000": api.ErrSize, "x+1000000000000000": api.ErrSize, "x^2-10000000000000000000000000x": api.ErrSize, "x-18446744073709551617": api.ErrSize, "x+1/18446744073709551617": api.ErrSize,
			"x^13+1000000000000000": api.ErrDegree, "0": api.ErrZero,
		} {
			got, e := ask(read(t, s), poly.Poly{})
			if e != want || e != api.OK && got != nothing[name] {
				t.Errorf("%s of %s: %s, %d instead of %d", name, s, got, e, want)
			}
		}
	}
}

func TestLimitsOfTwoPolynomials(t *testing.T) {
	const fine, high, large, both = "x^12-999999999999999", "x^13", "1000000000000000x", "1/1000000000000000x^13"
	for name, ask := range ofTwo {
		for _, x := range []struct {
			f, g string
			want api.Errno
		}{
			{fine, fine, api.OK},
			{high, fine, api.ErrDegree}, {fine, high, api.ErrDegree}, {large, fine, api.ErrSize}, {fine, large, api.ErrSize},
			{large, high, api.ErrSize}, {high, large, api.ErrDegree}, {both, fine, api.ErrDegree}, {fine, both, api.ErrDegree}, {both, large, api.ErrDegree}, {large, both, api.ErrSize},
			{"0", high, api.ErrDegree}, {"0", large, api.ErrSize}, {high, "0", api.ErrDegree}, {large, "0", api.ErrSize},
		} {
			got, e := ask(read(t, x.f), read(t, x.g))
			if e != x.want || e != api.OK && got != nothing[name] {
				t.Errorf("%s of %s and %s: %s, %d instead of %d", name, x.f, x.g, got, e, x.want)
			}
		}
	}
	for _, x := range [][2]string{{"0", "0"}, {"0", "x"}, {"x", "0"}} {
		l, e := poly.Spread(read(t, x[0]), read(t, x[1]))
		if e != api.ErrZero || len(l) != 0 {
			t.Errorf("Spread of %s and %s: %v, %d", x[0], x[1], l, e)
		}
	}
}

// withCommon are two polynomials, of which often both are 0 or have a common divisor.
func (s *source) withCommon(degree, numerators, denominators int) (ratios, ratios) {
	f, g := s.some(degree, numerators, denominators), s.some(degree, numerators, denominators)
	if s.Below(2) == 0 {
		d := s.some(3, 5, 2)
		f, g = f.times(d), g.times(d)
	}
	return f, g
}

func TestCommonDivisors(t *testing.T) {
	for _, x := range [][3]string{
		{"0", "0", "0"}, {"0", "2", "1"}, {"-3", "0", "1"}, {"0", "-2x+1", "x-1/2"}, {"3x^2-6", "0", "x^2-2"}, {"2", "3", "1"}, {"2x", "4", "1"}, {"x^3-1", "x^2-1", "x-1"},
		{"x^12-1", "x^8-1", "x^4-1"}, {"x^2-2", "x^2-2", "x^2-2"}, {"2x+2", "-x^2-x", "x+1"},
	} {
		d, e := poly.Gcd(read(t, x[0]), read(t, x[1]))
		if d.String() != x[2] || e != api.OK {
			t.Errorf("Gcd of %s and %s: %s, %d", x[0], x[1], d, e)
		}
	}
	s := source{41}
	for range 1000 {
		f, g := s.withCommon(8, 9, s.From(1, 4))
		d, e := poly.Gcd(made(t, f), made(t, g))
		want(t, "Gcd of "+f.text()+" and "+g.text(), d, e, common(f, g))
	}
}

// checkBezout checks what Bezout returns by its definition, which allows for just one result.
func checkBezout(t *testing.T, f, g ratios) {
	t.Helper()
	what := "Bezout of " + f.text() + " and " + g.text()
	d, u, v, e := poly.Bezout(made(t, f), made(t, g))
	divisor := common(f, g)
	want(t, what, d, e, divisor)
	if sum := of(u).times(f).plus(of(v).times(g)); sum.text() != divisor.text() {
		t.Errorf("%s: %s and %s make %s", what, u, v, sum.text())
	}
	switch {
	case len(f) == 0 && len(g) == 0:
		if u.Degree() != -1 || v.Degree() != -1 {
			t.Errorf("%s: %s and %s", what, u, v)
		}
	case len(g) == 0:
		if u.Degree() != 0 || v.Degree() != -1 {
			t.Errorf("%s: %s and %s", what, u, v)
		}
	case u.Degree() >= max(len(g)-len(divisor), 0):
		t.Errorf("%s: %s of too high a degree", what, u)
	}
}

func TestBezout(t *testing.T) {
	for _, x := range [][5]string{
		{"x^2", "x+1", "1", "1", "-x+1"}, {"x+1", "x^2", "1", "-x+1", "1"}, {"2x", "0", "x", "1/2", "0"}, {"0", "2x", "x", "0", "1/2"}, {"0", "0", "0", "0", "0"},
		{"x^2-1", "2x-2", "x-1", "0", "1/2"}, {"2x-2", "x^2-1", "x-1", "1/2", "0"}, {"3", "6", "1", "0", "1/6"}, {"3", "0", "1", "1/3", "0"}, {"0", "6", "1", "0", "1/6"}, {"3", "x", "1", "1/3", "0"}, {"x", "3", "1", "0", "1/3"},
		{"x^2-1", "x^2-1", "x^2-1", "0", "1"}, {"-x^2+1", "2x^2-2", "x^2-1", "0", "1/2"},
	} {
		d, u, v, e := poly.Bezout(read(t, x[0]), read(t, x[1]))
		if d.String() != x[2] || u.String() != x[3] || v.String() != x[4] || e != api.OK {
			t.Errorf("Bezout of %s and %s: %s, %s, %s, %d", x[0], x[1], d, u, v, e)
		}
	}
	s := source{42}
	for range 1000 {
		f, g := s.withCommon(s.From(0, 8), 9, s.From(1, 4))
		checkBezout(t, f, g)
		checkBezout(t, f, f.times(s.some(2, 5, 2)))
	}
}

func TestResultants(t *testing.T) {
	for _, x := range [][3]string{
		{"x^2-2", "x-1", "-1"}, {"x-1", "x^2-2", "-1"}, {"x^3", "x-2", "-8"}, {"x-2", "x^3", "8"}, {"2", "x^3", "8"}, {"x^3", "2", "8"}, {"x^2-1", "x-1", "0"}, {"3", "5", "1"}, {"0", "x", "0"}, {"x", "0", "0"}, {"0", "0", "0"}, {"0", "3", "0"}, {"3", "0", "0"},
		{"1/2x+1", "x^2-1/3", "11/12"}, {"-2", "x^12", "4096"}, {"x", "x", "0"}, {"3x+1", "2x+1", "1"}, {"2x+1", "3x+1", "-1"},
	} {
		r, e := poly.Resultant(read(t, x[0]), read(t, x[1]))
		if r.String() != x[2] || e != api.OK {
			t.Errorf("Resultant of %s and %s: %s, %d", x[0], x[1], r, e)
		}
	}
	s := source{43}
	for range 1000 {
		f, g := s.withCommon(s.From(0, 6), 9, s.From(1, 4))
		if s.Below(3) == 0 { // a quotient or a rest with a gap between its degree and the next one
			g = f.times(s.some(3, 3, 2)).plus(s.some(1, 3, 2))
		}
		r, e := poly.Resultant(made(t, f), made(t, g))
		wantRat(t, "Resultant of "+f.text()+" and "+g.text(), r, e, sylvester(f, g))
	}
}

// large is a polynomial of degree 12 whose coefficients have 15 digits above and below.
func (s *source) large() ratios {
	const most = 999_999_999_999_999
	var f ratios
	for range 13 {
		f = append(f, big.NewRat(int64(s.Next()%most)-most/2, int64(most-s.Next()%1000)))
	}
	return cut(f)
}

func TestLargestDivisions(t *testing.T) {
	s := source{44}
	f, g := s.large(), s.large()
	checkBezout(t, f, g)
	r, e := poly.Resultant(made(t, f), made(t, g))
	wantRat(t, "Resultant", r, e, sylvester(f, g))
	d, e := poly.Gcd(made(t, f), made(t, g))
	want(t, "Gcd", d, e, numbers(1))
	h := numbers(999_999_999, 0, 0, 7, 0, 0, 1)
	f, g = h.times(numbers(1, -999_999, 0, 0, 3)), h.times(numbers(2, 0, 0, 999_999, 0, 1))
	d, e = poly.Gcd(made(t, f), made(t, g))
	want(t, "Gcd", d, e, h)
	checkBezout(t, f, g)
}

// R4: the three results of one call are apart, and what is done with them changes no other.
func TestBezoutKeepsItsArguments(t *testing.T) {
	f, g := read(t, "x^3-1"), read(t, "x^2-1")
	d, u, v, _ := poly.Bezout(f, g)
	d.Mul(u)
	u.Add(v)
	v.Shift(num.Of(1))
	if f.String() != "x^3-1" || g.String() != "x^2-1" || d.String() != "x-1" || u.String() != "1" || v.String() != "-x" {
		t.Errorf("%s, %s, %s, %s, %s", f, g, d, u, v)
	}
}
