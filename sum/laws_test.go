package sum_test

import (
	"fmt"
	"testing"

	"stadda/api"
	"stadda/num"
	"stadda/sum"
)

// P3.5 and P3.7; P3.6 is with the numbers of Bernoulli.

func TestDifferencesAndSumsUndoEachOther(t *testing.T) {
	s := source{331}
	for range 300 {
		f := s.some(12, 50, 9)
		p := made(t, f)
		total, e := sum.Sum(p)
		if e != api.OK {
			t.Fatalf("Sum of %s: %d", p, e)
		}
		g, e := sum.Difference(total)
		want(t, "the difference of the sum", g, e, f)
		difference, e := sum.Difference(p)
		if e != api.OK {
			t.Fatalf("Difference of %s: %d", p, e)
		}
		g, e = sum.Sum(difference)
		want(t, "the sum of the difference", g, e, f.minus(cut(ratios{f.at(0)})))
	}
}

func TestBinomialsUndoEachOther(t *testing.T) {
	s := source{332}
	for range 300 {
		f := s.some(12, 50, 9)
		l, e := sum.Binomials(made(t, f))
		if e != api.OK {
			t.Fatalf("Binomials of %s: %d", made(t, f), e)
		}
		g, e := sum.FromBinomials(l)
		want(t, "the polynomial of its binomial coefficients", g, e, f)
		g, e = sum.FromBinomials(list(t, f))
		if e != api.OK {
			t.Fatalf("FromBinomials: %d", e)
		}
		l, e = sum.Binomials(g)
		if e != api.OK || fmt.Sprint(l) != fmt.Sprint(list(t, f)) {
			t.Errorf("the binomial coefficients %v of the polynomial of %v", l, list(t, f))
		}
	}
}

// Polya.
func TestWholeByBinomials(t *testing.T) {
	s := source{333}
	count := 0
	for range 600 {
		f := combined(s.some(6, 9, 1))
		if s.Below(2) == 0 {
			f = combined(s.some(6, 4, 3))
		}
		p := made(t, f)
		l, _ := sum.Binomials(p)
		integers := true
		for _, b := range l {
			integers = integers && b.Den().Cmp(num.Whole(1)) == 0
		}
		n, is, e := sum.Whole(p)
		if e != api.OK || is != integers || n > int64(max(0, p.Degree())) {
			t.Errorf("Whole of %s: %d, %t, %d; binomial coefficients %v", p, n, is, e, l)
		}
		if is {
			count++
		}
	}
	if count < 200 || count > 500 {
		t.Errorf("%d polynomials are whole", count)
	}
}

func TestTotalsByClosedForms(t *testing.T) {
	s := source{334}
	for count := 0; count < 100; {
		y := s.term(t, s.From(0, 3))
		p, q, ok, e := sum.Closed(y)
		if e != api.OK {
			t.Fatalf("Closed of %s: %d", name(y), e)
		}
		if !ok {
			continue
		}
		count++
		from := s.From(0, 20)
		to := from + s.From(-1, 20)
		at := func(n int) num.Rat {
			value, _ := sum.Value(y, n)
			over, _ := p.At(num.Of(int64(n)))
			under, _ := q.At(num.Of(int64(n)))
			if under.Sign() == 0 {
				t.Fatalf("%s: %s is 0 at %d", name(y), q, n)
			}
			product, _ := value.Mul(over)
			quotient, _ := product.Quo(under)
			return quotient
		}
		difference, _ := at(to + 1).Sub(at(from))
		total, e := sum.Total(y, from, to)
		if e != api.OK || total.Cmp(difference) != 0 {
			t.Errorf("%s from %d to %d: %s, %d instead of %s", name(y), from, to, total, e, difference)
		}
	}
}
