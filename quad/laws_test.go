package quad_test

import (
	"fmt"
	"slices"
	"testing"

	"stadda/api"
	"stadda/quad"
)

// P4.5, P4.6, P4.7.

// wantGroup checks the laws of a group for three primitive forms of one discriminant.
func wantGroup(t *testing.T, f, g, h quad.Form) {
	t.Helper()
	if l, r := product(t, product(t, f, g), h), product(t, f, product(t, g, h)); l != r {
		t.Errorf("%v, %v, %v: the products are %v and %v", f, g, h, l, r)
	}
	if l, r := product(t, f, g), product(t, g, f); l != r {
		t.Errorf("%v, %v: the products are %v and %v", f, g, l, r)
	}
	d := disc(f)
	one := simplest(quad.Form{1, -d % 2, (-d + -d%2) / 4})
	r, _, _ := quad.Reduce(f)
	if p := product(t, one, f); p != r {
		t.Errorf("Product of %v and %v: %v", one, f, p)
	}
	if p := product(t, f, one); p != r {
		t.Errorf("Product of %v and %v: %v", f, one, p)
	}
	if p := product(t, f, quad.Form{f[0], -f[1], f[2]}); p != one {
		t.Errorf("Product of %v and its opposite: %v", f, p)
	}
}

func TestGroups(t *testing.T) {
	s := source{451}
	for _, d := range []int64{-3, -4, -15, -20, -23, -39, -47, -84, -87, -96, -288, -420} {
		l := classes(t, d)
		for _, f := range l {
			for _, g := range l {
				for _, h := range l {
					wantGroup(t, f, g, h)
				}
			}
		}
	}
	all := discs()
	for range 1500 {
		l := classes(t, all[s.Below(len(all))])
		pick := func() quad.Form {
			f := l[s.Below(len(l))]
			if s.Below(2) == 0 {
				return s.like(f, 1_000_000)
			}
			return f
		}
		wantGroup(t, pick(), pick(), pick())
	}
}

// bigClass is some primitive form of the discriminant d, which may be the least one with products.
func (s *source) bigClass(d int64) quad.Form {
	for {
		a := s.number(1, 1155)
		b := s.number(-a, a)
		f := quad.Form{a, b, (b*b - d) / (4 * a)}
		if (b*b-d)%(4*a) == 0 && f[2] <= 1_000_000 && primitive(f) {
			return f
		}
	}
}

func TestGroupsOfGreatDiscriminants(t *testing.T) {
	s := source{452}
	for i := range 400 {
		d := -4_000_000 + 4*s.number(0, 400_000) + s.number(0, 1)
		if i < 40 {
			d = []int64{-4_000_000, -3_999_999, -3_999_996, -3_999_995, -4 * 999_999, -4 * 970_200, -4 * 900_900, -4 * 765_765}[i%8]
		}
		if (d+4_000_000)%4 > 1 {
			t.Fatalf("%d is no discriminant", d)
		}
		wantGroup(t, s.bigClass(d), s.bigClass(d), s.bigClass(d))
	}
}

func TestOrdersDivide(t *testing.T) {
	s := source{453}
	for i, d := range discs() {
		if i > 150 && i%61 != 0 {
			continue
		}
		l := classes(t, d)
		for range min(len(l), 20) {
			f := l[s.Below(len(l))]
			n, e := quad.Order(f)
			if e != api.OK || n < 1 || len(l)%n != 0 {
				t.Errorf("Order of %v: %d, %d; there are %d classes", f, n, e, len(l))
			}
			power := unit(t, d)
			for range n {
				power = product(t, power, f)
			}
			if power != unit(t, d) {
				t.Errorf("%v to the power %d: %v", f, n, power)
			}
		}
	}
}

// genera are the classes of d by their characters.
func genera(t *testing.T, d int64) map[string][]quad.Form {
	t.Helper()
	out := map[string][]quad.Form{}
	for _, f := range classes(t, d) {
		key := fmt.Sprint(characters(t, f))
		out[key] = append(out[key], f)
	}
	return out
}

func TestGenera(t *testing.T) {
	for i, d := range discs() {
		if i > 150 && i%43 != 0 && d%4096 != 0 && d != -15_015 && d != -16_380 && d != -5460 {
			continue
		}
		all := genera(t, d)
		u := characters(t, unit(t, d))
		squares := map[quad.Form]bool{}
		for _, f := range classes(t, d) {
			squares[product(t, f, f)] = true
		}
		first := all[fmt.Sprint(u)]
		if len(first) != len(squares) || slices.Contains(u, -1) || slices.Contains(u, 0) {
			t.Errorf("%d: the genus of the unit is %v, its characters are %v, the squares are %v", d, first, u, squares)
		}
		for _, f := range first {
			if !squares[f] {
				t.Errorf("%d: %v is in the genus of the unit, and no square", d, f)
			}
		}
		for key, l := range all {
			if len(l) != len(first) {
				t.Errorf("%d: %d classes with the characters %s, %d in the genus of the unit", d, len(l), key, len(first))
			}
		}
		if len(all) != 1<<(max(1, len(u))-1) {
			t.Errorf("%d: %d genera, %d characters", d, len(all), len(u))
		}
	}
}

func TestCharactersOfProducts(t *testing.T) {
	s := source{454}
	all := discs()
	for range 2000 {
		l := classes(t, all[s.Below(len(all))])
		f, g := l[s.Below(len(l))], l[s.Below(len(l))]
		u, v, w := characters(t, f), characters(t, g), characters(t, product(t, f, g))
		if len(u) != len(w) || len(v) != len(w) {
			t.Fatalf("%v, %v: the characters are %v, %v, of the product %v", f, g, u, v, w)
		}
		for i := range w {
			if u[i]*v[i] != w[i] {
				t.Errorf("%v, %v: the characters are %v, %v, of the product %v", f, g, u, v, w)
			}
		}
	}
}

// Dirichlet.
func TestPointsBySymbols(t *testing.T) {
	s := source{455}
	all := discs()
	some := 0
	for i := range 2500 {
		d := all[s.Below(len(all))]
		if i < 1500 {
			d = all[s.Below(60)]
		}
		n := s.number(1, []int64{200, 1_000_000}[s.Below(2)])
		if divisor(n, d) > 1 {
			continue
		}
		count, sum := 0, 0
		for _, f := range classes(t, d) {
			l, _ := quad.Points(f, n)
			count += len(l)
		}
		for e := int64(1); e*e <= n; e++ {
			if n%e != 0 {
				continue
			}
			first, _ := quad.Symbol(d, e)
			sum += first
			if e*e < n {
				last, _ := quad.Symbol(d, n/e)
				sum += last
			}
		}
		w := map[int64]int{-3: 6, -4: 4}[d]
		if count != max(2, w)*sum {
			t.Errorf("%d: %d points with the value %d, the sum of the symbols is %d", d, count, n, sum)
		}
		if sum > 0 {
			some++
		}
	}
	if some < 300 {
		t.Errorf("%d sums that are not 0", some)
	}
}

func TestSelvesOfClasses(t *testing.T) {
	for i, d := range discs() {
		if i > 300 && i%37 != 0 {
			continue
		}
		want := max(2, map[int64]int{-3: 6, -4: 4}[d])
		for _, f := range classes(t, d) {
			if n, e := quad.Selves(f); n != want || e != api.OK {
				t.Errorf("Selves of %v: %d, %d instead of %d", f, n, e, want)
			}
		}
	}
}
