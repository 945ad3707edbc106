package poly_test

import (
	"math/big"
	"strings"
	"testing"

	"stadda/api"
	"stadda/chance"
	"stadda/num"
	"stadda/poly"
)

// source is a row of numbers that are the same in each run.
type source struct {
	chance.Source
}

// ratios are the coefficients of a polynomial, from that of x^0 on, calculated with by math/big, straight from the definitions.
type ratios []*big.Rat

func cut(f ratios) ratios {
	for len(f) > 0 && f[len(f)-1].Sign() == 0 {
		f = f[:len(f)-1]
	}
	return f
}

// of are the coefficients of f.
func of(f poly.Poly) ratios {
	var l ratios
	for _, c := range f.Coeffs() {
		r, _ := new(big.Rat).SetString(c.String())
		l = append(l, r)
	}
	return l
}

// numbers are integers as coefficients.
func numbers(l ...int64) ratios {
	var f ratios
	for _, c := range l {
		f = append(f, big.NewRat(c, 1))
	}
	return cut(f)
}

func (f ratios) at(i int) *big.Rat {
	if i < len(f) {
		return f[i]
	}
	return new(big.Rat)
}

func (f ratios) plus(g ratios) ratios {
	sum := make(ratios, max(len(f), len(g)))
	for i := range sum {
		sum[i] = new(big.Rat).Add(f.at(i), g.at(i))
	}
	return cut(sum)
}

func (f ratios) scaled(c *big.Rat) ratios {
	return f.times(cut(ratios{c}))
}

func (f ratios) minus(g ratios) ratios {
	return f.plus(g.scaled(big.NewRat(-1, 1)))
}

func (f ratios) times(g ratios) ratios {
	product := make(ratios, len(f)+len(g))
	for i := range product {
		product[i] = new(big.Rat)
	}
	for i, c := range f {
		for j, d := range g {
			product[i+j].Add(product[i+j], new(big.Rat).Mul(c, d))
		}
	}
	return cut(product)
}

func (f ratios) value(r *big.Rat) *big.Rat {
	value := new(big.Rat)
	for i := len(f) - 1; i >= 0; i-- {
		value.Mul(value, r).Add(value, f[i])
	}
	return value
}

// after is f(g).
func (f ratios) after(g ratios) ratios {
	var value ratios
	for i := len(f) - 1; i >= 0; i-- {
		value = value.times(g).plus(cut(ratios{f[i]}))
	}
	return value
}

func (f ratios) derived() ratios {
	var l ratios
	for i := 1; i < len(f); i++ {
		l = append(l, new(big.Rat).Mul(f[i], big.NewRat(int64(i), 1)))
	}
	return l
}

// divided is the quotient of f by g, and the rest.
func (f ratios) divided(g ratios) (ratios, ratios) {
	var quotient ratios
	for len(f) >= len(g) {
		c := new(big.Rat).Quo(f[len(f)-1], g[len(g)-1])
		power := make(ratios, len(f)-len(g)+1)
		for i := range power {
			power[i] = new(big.Rat)
		}
		power[len(power)-1] = c
		quotient, f = quotient.plus(power), f.minus(g.times(power))
	}
	return quotient, f
}

func (f ratios) monic() ratios {
	if len(f) == 0 {
		return nil
	}
	return f.scaled(new(big.Rat).Inv(f[len(f)-1]))
}

// common is the monic common divisor of the highest degree.
func common(f, g ratios) ratios {
	for len(g) > 0 {
		_, rest := f.divided(g)
		f, g = g, rest
	}
	return f.monic()
}

// sylvester is the determinant of Sylvester's matrix.
func sylvester(f, g ratios) *big.Rat {
	if len(f) == 0 || len(g) == 0 {
		return new(big.Rat)
	}
	m, n := len(f)-1, len(g)-1
	rows := make([][]*big.Rat, m+n)
	for i := range rows {
		l, moved := f, i
		if i >= n {
			l, moved = g, i-n
		}
		rows[i] = make([]*big.Rat, m+n)
		for j := range rows[i] {
			rows[i][j] = new(big.Rat)
		}
		for j := range l {
			rows[i][moved+j].Set(l[len(l)-1-j])
		}
	}
	return determinant(rows)
}

func determinant(rows [][]*big.Rat) *big.Rat {
	product := big.NewRat(1, 1)
	for i := range rows {
		pivot := i
		for pivot < len(rows) && rows[pivot][i].Sign() == 0 {
			pivot++
		}
		if pivot == len(rows) {
			return new(big.Rat)
		}
		if pivot != i {
			rows[i], rows[pivot] = rows[pivot], rows[i]
			product.Neg(product)
		}
		product.Mul(product, rows[i][i])
		for _, row := range rows[i+1:] {
			c := new(big.Rat).Quo(row[i], rows[i][i])
			for j := i; j < len(row); j++ {
				row[j].Sub(row[j], new(big.Rat).Mul(c, rows[i][j]))
			}
		}
	}
	return product
}

// text is the canonical form.
func (f ratios) text() string {
	var out strings.Builder
	for i := len(f) - 1; i >= 0; i-- {
		c := f[i].RatString()
		if c == "0" {
			continue
		}
		if out.Len() > 0 && !strings.HasPrefix(c, "-") {
			out.WriteByte('+')
		}
		power := ""
		if i > 0 {
			power = "x"
		}
		if i > 1 {
			power = "x^" + big.NewInt(int64(i)).String()
		}
		if i > 0 && (c == "1" || c == "-1") {
			c = strings.TrimSuffix(c, "1")
		}
		out.WriteString(c + power)
	}
	if out.Len() == 0 {
		return "0"
	}
	return out.String()
}

// made is the polynomial with the coefficients f.
func made(t *testing.T, f ratios) poly.Poly {
	t.Helper()
	var l []num.Rat
	for _, c := range f {
		l = append(l, fraction(t, c.RatString()))
	}
	p, e := poly.New(l)
	if e != api.OK || p.Degree() != len(cut(f))-1 {
		t.Fatalf("New of %.80s: degree %d, %d", f.text(), p.Degree(), e)
	}
	return p
}

// read is the polynomial of a string.
func read(t *testing.T, s string) poly.Poly {
	t.Helper()
	f, e := poly.Parse(s)
	if e != api.OK || f.String() != s {
		t.Fatalf("Parse of %.80q: %.80s, %d", s, f, e)
	}
	return f
}

func fraction(t *testing.T, s string) num.Rat {
	t.Helper()
	r, e := num.Parse(s)
	if e != api.OK {
		t.Fatalf("Parse of %.40q: %d", s, e)
	}
	return r
}

// some is a polynomial with a degree of at most that, often with zeros among its coefficients, and with fractions if the denominators go beyond 1.
func (s *source) some(degree, numerators, denominators int) ratios {
	var f ratios
	for range s.From(0, degree+1) {
		n := s.From(-numerators, numerators)
		if s.Below(4) == 0 {
			n = s.From(-1, 1)
		}
		f = append(f, big.NewRat(int64(n), int64(s.From(1, denominators))))
	}
	return cut(f)
}

// want checks the result of a call that succeeds.
func want(t *testing.T, what string, got poly.Poly, e api.Errno, f ratios) {
	t.Helper()
	if e != api.OK || got.String() != f.text() || got.Degree() != len(f)-1 {
		t.Errorf("%s: %.200s, %d instead of %.200s", what, got, e, f.text())
	}
}

// fail checks the result of a call that fails.
func fail(t *testing.T, what string, got poly.Poly, e, want api.Errno) {
	t.Helper()
	if e != want || got.Degree() != -1 || got.String() != "0" {
		t.Errorf("%s: %.80s, %d instead of 0, %d", what, got, e, want)
	}
}

// wantRat checks the result of a call that succeeds.
func wantRat(t *testing.T, what string, got num.Rat, e api.Errno, r *big.Rat) {
	t.Helper()
	if e != api.OK || got.String() != r.RatString() {
		t.Errorf("%s: %.80s, %d instead of %.80s", what, got, e, r.RatString())
	}
}

// failRat checks the result of a call that fails.
func failRat(t *testing.T, what string, got num.Rat, e, want api.Errno) {
	t.Helper()
	if e != want || got.Sign() != 0 {
		t.Errorf("%s: %.80s, %d instead of 0, %d", what, got, e, want)
	}
}
