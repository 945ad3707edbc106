package poly_test

import (
	"fmt"
	"math/big"
	"testing"
	"time"

	"stadda/api"
	"stadda/num"
	"stadda/poly"
)

// P2.2: Add, Sub, Mul, Div, At, Derive, Shift.

// twoTo is 2^n.
func twoTo(n int) *big.Rat {
	return new(big.Rat).SetInt(new(big.Int).Lsh(big.NewInt(1), uint(n)))
}

// oneOver is 1 / r.
func oneOver(r *big.Rat) *big.Rat {
	return new(big.Rat).Inv(r)
}

func less(r *big.Rat, n int64) *big.Rat {
	return new(big.Rat).Sub(r, big.NewRat(n, 1))
}

func minus(r *big.Rat) *big.Rat {
	return new(big.Rat).Neg(r)
}

// largest is the greatest small integer.
var largest = less(twoTo(api.MaxBits), 1)

func TestSumsAndProducts(t *testing.T) {
	s := source{31}
	for range 1500 {
		f, g := s.some(8, 9, s.From(1, 5)), s.some(8, 9, s.From(1, 5))
		if s.Below(5) == 0 {
			g = f.scaled(big.NewRat(-1, 1)).plus(s.some(3, 4, 2))
		}
		p, q := made(t, f), made(t, g)
		what := p.String() + " and " + q.String()
		sum, e := p.Add(q)
		want(t, "sum of "+what, sum, e, f.plus(g))
		difference, e := p.Sub(q)
		want(t, "difference of "+what, difference, e, f.minus(g))
		product, e := p.Mul(q)
		want(t, "product of "+what, product, e, f.times(g))
		if p.String() != f.text() || q.String() != g.text() {
			t.Fatalf("%s became %s and %s", what, p, q)
		}
	}
}

func TestQuotients(t *testing.T) {
	s := source{32}
	for range 1500 {
		f, g := s.some(9, 9, s.From(1, 4)), s.some(6, 9, s.From(1, 4))
		if s.Below(3) == 0 {
			f = g.times(s.some(5, 9, 3))
		}
		if len(g) == 0 {
			continue
		}
		quotient, rest, e := made(t, f).Div(made(t, g))
		wantedQuotient, wantedRest := f.divided(g)
		what := f.text() + " by " + g.text()
		want(t, "quotient of "+what, quotient, e, wantedQuotient)
		want(t, "rest of "+what, rest, e, wantedRest)
	}
}

func TestValuesAndShifts(t *testing.T) {
	s := source{33}
	for range 1500 {
		f := s.some(8, 9, s.From(1, 4))
		r := big.NewRat(int64(s.From(-12, 12)), int64(s.From(1, 6)))
		p, at := made(t, f), fraction(t, r.RatString())
		value, e := p.At(at)
		wantRat(t, f.text()+" at "+r.RatString(), value, e, f.value(r))
		shifted, e := p.Shift(at)
		want(t, f.text()+" shifted by "+r.RatString(), shifted, e, f.after(ratios{r, big.NewRat(1, 1)}))
		derivative, e := p.Derive()
		want(t, "derivative of "+f.text(), derivative, e, f.derived())
	}
}

func TestZeroInArithmetic(t *testing.T) {
	var zero poly.Poly
	f := read(t, "x^2-1/2")
	for i, x := range []struct {
		got  func() (poly.Poly, api.Errno)
		text ratios
	}{
		{func() (poly.Poly, api.Errno) { return f.Add(zero) }, of(f)},
		{func() (poly.Poly, api.Errno) { return zero.Add(f) }, of(f)},
		{func() (poly.Poly, api.Errno) { return f.Sub(zero) }, of(f)},
		{func() (poly.Poly, api.Errno) { return zero.Sub(f) }, of(read(t, "-x^2+1/2"))},
		{func() (poly.Poly, api.Errno) { return f.Sub(f) }, nil},
		{func() (poly.Poly, api.Errno) { return f.Mul(zero) }, nil},
		{func() (poly.Poly, api.Errno) { return zero.Mul(f) }, nil},
		{func() (poly.Poly, api.Errno) { return zero.Mul(zero) }, nil},
		{func() (poly.Poly, api.Errno) { return zero.Mul(read(t, "x^100")) }, nil},
		{func() (poly.Poly, api.Errno) { return read(t, "x^100").Mul(zero) }, nil},
		{zero.Derive, nil},
		{read(t, "5").Derive, nil},
		{func() (poly.Poly, api.Errno) { return zero.Shift(num.Of(3)) }, nil},
		{func() (poly.Poly, api.Errno) { return f.Shift(num.Rat{}) }, of(f)},
	} {
		got, e := x.got()
		want(t, fmt.Sprintf("call %d", i), got, e, x.text)
	}
	value, e := zero.At(num.Of(3))
	wantRat(t, "0 at 3", value, e, new(big.Rat))
	value, e = f.At(num.Rat{})
	wantRat(t, "a polynomial at 0", value, e, big.NewRat(-1, 2))
}

func TestDivisionByZero(t *testing.T) {
	for _, s := range []string{"0", "1", "x^3-2"} {
		q, r, e := read(t, s).Div(poly.Poly{})
		fail(t, "quotient by 0", q, e, api.ErrZero)
		fail(t, "rest by 0", r, e, api.ErrZero)
	}
	q, r, e := poly.Poly{}.Div(read(t, "x"))
	want(t, "quotient of 0", q, e, nil)
	want(t, "rest of 0", r, e, nil)
	q, r, e = read(t, "x+3").Div(read(t, "x^2"))
	want(t, "quotient by a higher degree", q, e, nil)
	want(t, "rest by a higher degree", r, e, numbers(3, 1))
	q, r, e = read(t, "x+3").Div(read(t, "2"))
	want(t, "quotient by 2", q, e, ratios{big.NewRat(3, 2), big.NewRat(1, 2)})
	want(t, "rest by 2", r, e, nil)
}

func TestDegreesOfProducts(t *testing.T) {
	f, e := read(t, "x^50+1").Mul(read(t, "x^50-1"))
	if f.String() != "x^100-1" || e != api.OK {
		t.Errorf("%s, %d", f, e)
	}
	f, e = read(t, "x^100").Mul(read(t, "-2"))
	if f.String() != "-2x^100" || e != api.OK {
		t.Errorf("%s, %d", f, e)
	}
	for _, x := range [][2]string{{"x^50", "x^51"}, {"x^100", "x"}, {"x", "x^100"}, {"x^100", "x^100"}} {
		f, e = read(t, x[0]).Mul(read(t, x[1]))
		fail(t, x[0]+" times "+x[1], f, e, api.ErrDegree)
	}
	large := made(t, append(ones(60), largest))
	f, e = large.Mul(large)
	fail(t, "large coefficients and degree 120", f, e, api.ErrDegree)
}

// ones are n coefficients 1.
func ones(n int) ratios {
	f := make(ratios, n)
	for i := range f {
		f[i] = big.NewRat(1, 1)
	}
	return f
}

func TestHighDegrees(t *testing.T) {
	f, e := read(t, "x^100+x").Shift(num.Of(1))
	binomials := numbers(1, 1)
	power := numbers(1)
	for range 100 {
		power = power.times(binomials)
	}
	want(t, "x^100 + x, shifted", f, e, power.plus(binomials))
	f, e = read(t, "x^100+x^2+x").Derive()
	if f.String() != "100x^99+2x+1" || e != api.OK {
		t.Errorf("%s, %d", f, e)
	}
	v, e := read(t, "x^100-1").At(num.Of(2))
	wantRat(t, "2^100 - 1", v, e, less(twoTo(100), 1))
}

func TestSizesOfSums(t *testing.T) {
	one := big.NewRat(1, 1)
	top := made(t, ratios{one, one, largest})
	f, e := top.Add(made(t, ratios{one, one, minus(one)}))
	want(t, "less than the largest", f, e, ratios{big.NewRat(2, 1), big.NewRat(2, 1), less(largest, 1)})
	for i := range 3 {
		l := make(ratios, 3)
		for j := range l {
			l[j] = new(big.Rat)
		}
		l[i] = largest
		g := make(ratios, 3)
		for j := range g {
			g[j] = one
		}
		f, e = made(t, l).Add(made(t, g))
		fail(t, "sum above the largest", f, e, api.ErrSize)
		f, e = made(t, g.scaled(minus(one))).Sub(made(t, l))
		fail(t, "difference below the least", f, e, api.ErrSize)
		f, e = made(t, l).Sub(made(t, g))
		want(t, "difference", f, e, cut(l).minus(g))
	}
	third := ratios{big.NewRat(1, 3)}
	f, e = made(t, ratios{oneOver(largest)}).Add(made(t, ratios{oneOver(less(largest, 1))}))
	fail(t, "sum with a large denominator", f, e, api.ErrSize)
	f, e = made(t, third).Sub(made(t, third))
	want(t, "a third less a third", f, e, nil)
}

func TestSizesOfProducts(t *testing.T) {
	half := twoTo(api.MaxBits / 2)
	below := twoTo(api.MaxBits/2 - 1)
	f, e := made(t, ratios{half, half}).Mul(made(t, ratios{below}))
	want(t, "product of 100000 bits", f, e, ratios{twoTo(api.MaxBits - 1), twoTo(api.MaxBits - 1)})
	f, e = made(t, ratios{half}).Mul(made(t, ratios{half}))
	fail(t, "product of 100001 bits", f, e, api.ErrSize)
	f, e = made(t, ratios{big.NewRat(1, 1), half}).Mul(made(t, ratios{big.NewRat(1, 1), half}))
	fail(t, "product with a large last coefficient", f, e, api.ErrSize)
	f, e = made(t, ratios{oneOver(half)}).Mul(made(t, ratios{oneOver(half)}))
	fail(t, "product with a large denominator", f, e, api.ErrSize)
	f, e = made(t, ratios{oneOver(half), half}).Mul(made(t, ratios{half}))
	fail(t, "product with one large coefficient", f, e, api.ErrSize)
}

// R10: sums and products are exact, even where they are not small and only the result is.
func TestProductsWithLargeParts(t *testing.T) {
	b := twoTo(49999)
	f := numbers(1, -2, 1).scaled(b)
	g := numbers(1, 2, 1).scaled(b)
	product, e := made(t, f).Mul(made(t, g))
	want(t, "product whose parts are large", product, e, f.times(g))
	c := twoTo(99999)
	h := ratios{minus(c), c, c}
	value, e := made(t, h).At(num.Of(1))
	wantRat(t, "value behind a large sum", value, e, c)
	f = ratios{oneOver(c), oneOver(less(c, 1)), minus(oneOver(c))}
	value, e = made(t, f).At(num.Of(1))
	wantRat(t, "value behind large denominators", value, e, oneOver(less(c, 1)))
	// At 2^-60000 the value of the first step is 2^-60000 times 2^99999, and so on.
	f = ratios{big.NewRat(1, 1), twoTo(60000), twoTo(99999)}
	value, e = made(t, f).At(fraction(t, minus(oneOver(twoTo(60000))).RatString()))
	wantRat(t, "value at a small place", value, e, oneOver(twoTo(20001)))
	// At 2^60000 + 1 the sum of x^2 terms is large, and is taken away by the rest of it.
	r := new(big.Rat).Add(twoTo(60000), big.NewRat(1, 1))
	f = ratios{big.NewRat(5, 1), minus(r), big.NewRat(1, 1)}
	value, e = made(t, f).At(fraction(t, r.RatString()))
	wantRat(t, "value near a large root", value, e, big.NewRat(5, 1))
	// Denominators: x/r cancels what 1/r^2 x^2 brings.
	f = ratios{big.NewRat(5, 1), minus(oneOver(r)), big.NewRat(1, 1)}
	value, e = made(t, f).At(fraction(t, oneOver(r).RatString()))
	wantRat(t, "value near a root with a large denominator", value, e, big.NewRat(5, 1))
}

func TestShiftsWithLargeParts(t *testing.T) {
	c := twoTo(99999)
	f := ratios{minus(c), c, minus(c), c}
	shifted, e := made(t, f).Shift(num.Of(-1))
	fail(t, "shift with large coefficients", shifted, e, api.ErrSize)
	f = ratios{c, c, big.NewRat(1, 1)}
	shifted, e = made(t, f).Shift(num.Of(-1))
	want(t, "shift whose coefficients are small", shifted, e, f.after(numbers(-1, 1)))
	f = ratios{minus(c), c, c}
	shifted, e = made(t, f).Shift(num.Of(-1))
	want(t, "shift behind large sums", shifted, e, ratios{minus(c), minus(c), c})
	f = ratios{c, c}
	shifted, e = made(t, f).Shift(num.Of(1))
	fail(t, "shift by 1", shifted, e, api.ErrSize)
	shifted, e = made(t, ratios{oneOver(c)}).Shift(fraction(t, largest.RatString()))
	want(t, "shift of a number", shifted, e, ratios{oneOver(c)})
}

func TestQuotientsWithLargeParts(t *testing.T) {
	c := twoTo(99999)
	one := big.NewRat(1, 1)
	// The steps' rests are large where the last rest is not.
	f := ratios{minus(c), new(big.Rat), c, c}
	g := numbers(1, 1)
	quotient, rest, e := made(t, f).Div(made(t, g))
	wantedQuotient, wantedRest := f.divided(g)
	want(t, "quotient", quotient, e, wantedQuotient)
	want(t, "rest", rest, e, wantedRest)
	f, g = ratios{one, one, c}, ratios{one, big.NewRat(1, 2)}
	quotient, rest, e = made(t, f).Div(made(t, g))
	fail(t, "large quotient", quotient, e, api.ErrSize)
	fail(t, "rest of a large quotient", rest, e, api.ErrSize)
	f, g = ratios{one, c}, ratios{c, one}
	quotient, rest, e = made(t, f).Div(made(t, g))
	fail(t, "quotient with a large rest", quotient, e, api.ErrSize)
	fail(t, "large rest", rest, e, api.ErrSize)
	// x^2 + (c - 1) x - c is (x - 1)(x + c), although c times c comes up for x^2 by x + c and its neighbours.
	f, g = ratios{minus(c), less(c, 1), one}, ratios{c, one}
	quotient, rest, e = made(t, f).Div(made(t, g))
	want(t, "quotient by x + c", quotient, e, numbers(-1, 1))
	want(t, "rest by x + c", rest, e, nil)
	p := less(twoTo(60000), 1)
	f, g = ratios{one, p, new(big.Rat).Mul(p, big.NewRat(2, 1))}, ratios{p, p}
	quotient, rest, e = made(t, f).Div(made(t, g))
	wantedQuotient, wantedRest = f.divided(g)
	want(t, "quotient by p x + p", quotient, e, wantedQuotient)
	want(t, "rest by p x + p", rest, e, wantedRest)
}

func TestSizesOfDerivatives(t *testing.T) {
	c := twoTo(99999)
	f, e := made(t, ratios{c, c, oneOver(c)}).Derive()
	want(t, "derivative", f, e, ratios{c, oneOver(twoTo(99998))})
	f, e = made(t, ratios{c, c, c}).Derive()
	fail(t, "large derivative", f, e, api.ErrSize)
	f, e = made(t, ratios{c, c, c, big.NewRat(1, 1)}).Derive()
	fail(t, "derivative with a large coefficient", f, e, api.ErrSize)
}

func TestSizesOfValues(t *testing.T) {
	c := twoTo(50000)
	square := numbers(0, 0, 1)
	v, e := made(t, square).At(fraction(t, c.RatString()))
	failRat(t, "2^100000", v, e, api.ErrSize)
	v, e = made(t, square).At(fraction(t, oneOver(c).RatString()))
	failRat(t, "2^-100000", v, e, api.ErrSize)
	v, e = made(t, numbers(-1, 0, 1)).At(fraction(t, c.RatString()))
	wantRat(t, "2^100000 - 1", v, e, largest)
	v, e = made(t, numbers(1, 0, -1)).At(fraction(t, c.RatString()))
	wantRat(t, "1 - 2^100000", v, e, minus(largest))
	f, e := made(t, square).Shift(fraction(t, c.RatString()))
	fail(t, "x^2 shifted by 2^50000", f, e, api.ErrSize)
	f, e = made(t, numbers(-1, 0, 1)).Shift(fraction(t, c.RatString()))
	want(t, "x^2 - 1 shifted by 2^50000", f, e, ratios{largest, twoTo(50001), big.NewRat(1, 1)})
}

// The numbers of a calculation that ends in ErrSize do not grow beyond what could become small again.
func TestLargeValuesEndSoon(t *testing.T) {
	high := read(t, "x^100+1/3x^50+1")
	low := made(t, append(ones(100), largest))
	start := time.Now()
	for _, r := range []*big.Rat{twoTo(99999), minus(twoTo(99999)), oneOver(twoTo(99999)), new(big.Rat).Quo(twoTo(99999), less(twoTo(99998), 1)), new(big.Rat).Quo(less(twoTo(99998), 1), twoTo(99999)), new(big.Rat).Quo(twoTo(99999), big.NewRat(3, 1))} {
		at := fraction(t, r.RatString())
		for _, f := range []poly.Poly{high, low} {
			v, e := f.At(at)
			failRat(t, "large value", v, e, api.ErrSize)
			g, e := f.Shift(at)
			fail(t, "large shift", g, e, api.ErrSize)
		}
	}
	if took := time.Since(start); took > 10*time.Second {
		t.Errorf("%v", took)
	}
}

// R4: results share no memory with arguments, which would show where one is made of the other by appending.
func TestResultsAreIndependent(t *testing.T) {
	f, g := read(t, "x^3-2x+1"), read(t, "x^2-1/2")
	before := f.String() + " " + g.String()
	quotient, rest, _ := f.Div(g)
	sum, _ := f.Add(g)
	shown := quotient.String() + " " + rest.String() + " " + sum.String()
	for range 3 {
		f.Mul(g)
		quotient.Mul(rest)
		rest.Add(sum)
		sum.Sub(f)
		sum.Derive()
		sum.Shift(num.Of(2))
		sum.At(num.Of(2))
		sum.Div(rest)
	}
	if after := f.String() + " " + g.String(); after != before {
		t.Errorf("%s became %s", before, after)
	}
	if after := quotient.String() + " " + rest.String() + " " + sum.String(); after != shown {
		t.Errorf("%s became %s", shown, after)
	}
}
