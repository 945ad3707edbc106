package poly_test

import (
	"testing"

	"stadda/api"
	"stadda/num"
	"stadda/poly"
)

// P2.4 and P2.5: the laws.

// checked is a result that must not fail.
func checked[T any](t *testing.T, result T, e api.Errno) T {
	t.Helper()
	if e != api.OK {
		t.Fatalf("error %d", e)
	}
	return result
}

func TestPolynomialsAreARing(t *testing.T) {
	add := func(f, g poly.Poly) poly.Poly { r, e := f.Add(g); return checked(t, r, e) }
	sub := func(f, g poly.Poly) poly.Poly { r, e := f.Sub(g); return checked(t, r, e) }
	mul := func(f, g poly.Poly) poly.Poly { r, e := f.Mul(g); return checked(t, r, e) }
	same := func(law string, f, g poly.Poly) {
		t.Helper()
		if !f.Equal(g) || f.String() != g.String() {
			t.Errorf("%s: %s and %s", law, f, g)
		}
	}
	var zero poly.Poly
	one := read(t, "1")
	s := source{61}
	for range 500 {
		f, g, h := made(t, s.some(6, 9, 4)), made(t, s.some(6, 9, 4)), made(t, s.some(6, 9, 4))
		same("sums commute", add(f, g), add(g, f))
		same("sums associate", add(add(f, g), h), add(f, add(g, h)))
		same("0 changes no sum", add(f, zero), f)
		same("negatives", add(f, sub(zero, f)), zero)
		same("differences", sub(f, g), add(f, sub(zero, g)))
		same("products commute", mul(f, g), mul(g, f))
		same("products associate", mul(mul(f, g), h), mul(f, mul(g, h)))
		same("1 changes no product", mul(f, one), f)
		same("products distribute", mul(f, add(g, h)), add(mul(f, g), mul(f, h)))
		if f.Degree() >= 0 && g.Degree() >= 0 && mul(f, g).Degree() != f.Degree()+g.Degree() {
			t.Errorf("degree of the product of %s and %s", f, g)
		}
		r := num.Of(int64(s.From(-5, 5)))
		there, e := f.Shift(r)
		back, d := checked(t, there, e).Shift(r.Neg())
		same("shifts", checked(t, back, d), f)
		a, e := mul(f, g).Derive()
		b, _ := f.Derive()
		c, _ := g.Derive()
		same("derivatives", checked(t, a, e), add(mul(b, g), mul(f, c)))
	}
}

func TestLawsOfResultants(t *testing.T) {
	s := source{62}
	zeros := 0
	for range 500 {
		l, k := s.withCommon(3, 6, 3)
		f, g, h := made(t, l), made(t, k), made(t, s.some(3, 6, 3))
		resultant := func(f, g poly.Poly) num.Rat { r, e := poly.Resultant(f, g); return checked(t, r, e) }
		times := func(a, b num.Rat) num.Rat { r, e := a.Mul(b); return checked(t, r, e) }
		r := resultant(f, g)
		d, _ := poly.Gcd(f, g)
		if (r.Sign() == 0) != (d.Degree() >= 1 || f.Degree() < 0 || g.Degree() < 0) {
			t.Errorf("resultant %s of %s and %s", r, f, g)
		}
		if r.Sign() == 0 {
			zeros++
		}
		swapped := resultant(g, f)
		if f.Degree()%2 != 0 && g.Degree()%2 != 0 {
			swapped = swapped.Neg()
		}
		if swapped.Cmp(r) != 0 {
			t.Errorf("resultants of %s and %s", f, g)
		}
		gh, _ := g.Mul(h)
		if resultant(f, gh).Cmp(times(r, resultant(f, h))) != 0 || resultant(gh, f).Cmp(times(resultant(g, f), resultant(h, f))) != 0 {
			t.Errorf("resultant of %s and the product of %s and %s", f, g, h)
		}
	}
	if zeros < 100 || zeros > 400 {
		t.Errorf("%d resultants are 0", zeros)
	}
}

func TestFactorsOfAProductAreThoseOfBoth(t *testing.T) {
	s := source{63}
	for range 300 {
		f, g := s.some(5, 9, 2), s.some(5, 9, 2)
		if len(f) == 0 || len(g) == 0 {
			continue
		}
		var l []factor
		for _, h := range []ratios{f, g} {
			_, parts, e := poly.Factor(made(t, h))
			for _, p := range checked(t, parts, e) {
				l = append(l, factor{of(p.Poly), p.Power})
			}
		}
		_, parts, e := poly.Factor(made(t, f.times(g)))
		if listed(checked(t, parts, e)) != inOrder(l) {
			t.Errorf("%s times %s: %s instead of %s", f.text(), g.text(), listed(parts), inOrder(l))
		}
	}
}

func TestRootsAreFactorsOfDegreeOne(t *testing.T) {
	s := source{64}
	for range 300 {
		f := s.some(4, 6, 2).times(numbers(int64(s.From(-3, 3)), int64(s.From(1, 3)))).times(numbers(int64(s.From(-3, 3)), int64(s.From(1, 3))))
		if len(f) == 0 {
			continue
		}
		p := made(t, f)
		roots, e := poly.Roots(p)
		checked(t, roots, e)
		for i, r := range roots {
			if v, _ := p.At(r); v.Sign() != 0 || i > 0 && roots[i-1].Cmp(r) >= 0 {
				t.Errorf("Roots of %s: %v", p, roots)
			}
		}
		_, parts, _ := poly.Factor(p)
		linear := 0
		for _, q := range parts {
			if q.Poly.Degree() == 1 {
				linear++
			}
		}
		if linear != len(roots) {
			t.Errorf("Roots of %s: %v, factors %s", p, roots, listed(parts))
		}
	}
}
