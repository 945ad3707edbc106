package sum_test

import (
	"math/big"
	"strings"
	"testing"

	"stadda/api"
	"stadda/chance"
	"stadda/num"
	"stadda/poly"
	"stadda/sum"
)

// source is a row of numbers that are the same in each run.
type source struct {
	chance.Source
}

// ratios are the coefficients of a polynomial, from that of x^0 on, calculated with by math/big, straight from the definitions.
type ratios []*big.Rat

func cut(f ratios) ratios {
	for len(f) > 0 && f[len(f)-1].Sign() == 0 {
		f = f[:len(f)-1]
	}
	return f
}

func ratio(r num.Rat) *big.Rat {
	out, _ := new(big.Rat).SetString(r.String())
	return out
}

// of are the coefficients of f.
func of(f poly.Poly) ratios {
	var l ratios
	for _, c := range f.Coeffs() {
		l = append(l, ratio(c))
	}
	return l
}

// numbers are integers as coefficients.
func numbers(l ...int64) ratios {
	var f ratios
	for _, c := range l {
		f = append(f, big.NewRat(c, 1))
	}
	return cut(f)
}

func (f ratios) at(i int) *big.Rat {
	if i < len(f) {
		return f[i]
	}
	return new(big.Rat)
}

func (f ratios) plus(g ratios) ratios {
	sum := make(ratios, max(len(f), len(g)))
	for i := range sum {
		sum[i] = new(big.Rat).Add(f.at(i), g.at(i))
	}
	return cut(sum)
}

func (f ratios) scaled(c *big.Rat) ratios {
	return f.times(cut(ratios{c}))
}

func (f ratios) minus(g ratios) ratios {
	return f.plus(g.scaled(big.NewRat(-1, 1)))
}

func (f ratios) times(g ratios) ratios {
	product := make(ratios, len(f)+len(g))
	for i := range product {
		product[i] = new(big.Rat)
	}
	for i, c := range f {
		for j, d := range g {
			product[i+j].Add(product[i+j], new(big.Rat).Mul(c, d))
		}
	}
	return cut(product)
}

func (f ratios) value(n int64) *big.Rat {
	value, r := new(big.Rat), big.NewRat(n, 1)
	for i := len(f) - 1; i >= 0; i-- {
		value.Mul(value, r).Add(value, f[i])
	}
	return value
}

// shifted is f(x + n).
func (f ratios) shifted(n int64) ratios {
	var value ratios
	for i := len(f) - 1; i >= 0; i-- {
		value = value.times(numbers(n, 1)).plus(cut(ratios{f[i]}))
	}
	return value
}

// common is the degree of the common divisors of f and g of the highest degree.
func common(f, g ratios) int {
	for len(g) > 0 {
		for len(f) >= len(g) {
			power := make(ratios, len(f)-len(g)+1)
			for i := range power {
				power[i] = new(big.Rat)
			}
			power[len(power)-1].Quo(f[len(f)-1], g[len(g)-1])
			f = f.minus(g.times(power))
		}
		f, g = g, f
	}
	return len(f) - 1
}

// choose is x (x - 1) .. (x - k + 1) / k!.
func choose(k int) ratios {
	f := numbers(1)
	for i := range int64(k) {
		f = f.times(numbers(-i, 1)).scaled(big.NewRat(1, i+1))
	}
	return f
}

// combined is the sum of l[k] C(x, k).
func combined(l []*big.Rat) ratios {
	var f ratios
	for k, b := range l {
		f = f.plus(choose(k).scaled(b))
	}
	return f
}

// list are the numbers of l for a call.
func list(t *testing.T, l []*big.Rat) []num.Rat {
	t.Helper()
	var out []num.Rat
	for _, c := range l {
		out = append(out, fraction(t, c.RatString()))
	}
	return out
}

// made is the polynomial with the coefficients f.
func made(t *testing.T, f ratios) poly.Poly {
	t.Helper()
	p, e := poly.New(list(t, f))
	if e != api.OK {
		t.Fatalf("New: %d", e)
	}
	return p
}

// read is the polynomial of a string.
func read(t *testing.T, s string) poly.Poly {
	t.Helper()
	f, e := poly.Parse(s)
	if e != api.OK {
		t.Fatalf("Parse of %.80q: %d", s, e)
	}
	return f
}

func fraction(t *testing.T, s string) num.Rat {
	t.Helper()
	r, e := num.Parse(s)
	if e != api.OK {
		t.Fatalf("Parse of %.40q: %d", s, e)
	}
	return r
}

// term is the term that begins with 1.
func term(t *testing.T, top, bottom string) sum.Term {
	t.Helper()
	return sum.Term{Top: read(t, top), Bottom: read(t, bottom), First: num.Of(1)}
}

func name(y sum.Term) string {
	return "(" + y.Top.String() + ") / (" + y.Bottom.String() + "), " + y.First.String()
}

// some is a polynomial of at most that degree.
func (s *source) some(degree, numerators, denominators int) ratios {
	var f ratios
	for range s.From(0, degree+1) {
		f = append(f, big.NewRat(int64(s.From(-numerators, numerators)), int64(s.From(1, denominators))))
	}
	return cut(f)
}

// part is a top or a bottom of a term, of at most that degree: now and then a product of short ones, so that two of them often have roots apart by an integer.
func (s *source) part(degree int) ratios {
	for {
		f := numbers(int64(s.From(-5, 5)), int64(s.From(-5, 5)), int64(s.From(-5, 5)), int64(s.From(-5, 5)))
		if s.Below(2) == 0 {
			f = numbers(int64(s.From(1, 5)))
			for range s.From(0, degree) {
				f = f.times(numbers(int64(s.From(-5, 5)), int64(s.From(1, 2))))
			}
		}
		if len(f) <= degree+1 && isPart(f) {
			return f
		}
	}
}

// isPart is what the chapter asks of the top and the bottom of a term.
func isPart(f ratios) bool {
	for _, c := range f {
		if !c.IsInt() || c.Num().CmpAbs(big.NewInt(5)) > 0 {
			return false
		}
	}
	for n := range int64(40) {
		if f.value(n).Sign() == 0 { // 0 is 0 everywhere
			return false
		}
	}
	return len(f) <= 4
}

// term is some term.
func (s *source) term(t *testing.T, degree int) sum.Term {
	t.Helper()
	first := num.Of(int64(s.From(1, 9)))
	if s.Below(2) == 0 {
		first, _ = num.Make(int64(-s.From(1, 999_999)), int64(s.From(1, 999_999)))
	}
	return sum.Term{Top: made(t, s.part(degree)), Bottom: made(t, s.part(degree)), First: first}
}

// values are t(0), .., t(n), from the definition.
func values(y sum.Term, n int) []*big.Rat {
	top, bottom := of(y.Top), of(y.Bottom)
	l := []*big.Rat{ratio(y.First)}
	for i := range int64(n) {
		next := new(big.Rat).Mul(l[i], top.value(i))
		l = append(l, next.Quo(next, bottom.value(i)))
	}
	return l
}

// digits is the number with that many digits, all of them 7.
func digits(n int) string {
	return strings.Repeat("7", n)
}

// want checks the result of a call that succeeds.
func want(t *testing.T, what string, got poly.Poly, e api.Errno, f ratios) {
	t.Helper()
	if e != api.OK || !got.Equal(made(t, f)) {
		t.Errorf("%s: %.200s, %d instead of %.200s", what, got, e, made(t, f))
	}
}

// fail checks the result of a call that fails.
func fail(t *testing.T, what string, got poly.Poly, e, want api.Errno) {
	t.Helper()
	if e != want || got.Degree() != -1 {
		t.Errorf("%s: %.80s, %d instead of 0, %d", what, got, e, want)
	}
}

// wantRat checks the result of a call that succeeds.
func wantRat(t *testing.T, what string, got num.Rat, e api.Errno, r *big.Rat) {
	t.Helper()
	if e != api.OK || got.String() != r.RatString() {
		t.Errorf("%s: %.80s, %d instead of %.80s", what, got, e, r.RatString())
	}
}

// failRat checks the result of a call that fails.
func failRat(t *testing.T, what string, got num.Rat, e, want api.Errno) {
	t.Helper()
	if e != want || got.Sign() != 0 {
		t.Errorf("%s: %.80s, %d instead of 0, %d", what, got, e, want)
	}
}
