package poly_test

import (
	"cmp"
	"fmt"
	"math/big"
	"slices"
	"strings"
	"testing"

	"stadda/api"
	"stadda/num"
	"stadda/poly"
)

// P2.3: Free, Factor, Roots, Spread.

// listed are parts as a string.
func listed(l []poly.Part) string {
	var out []string
	for _, p := range l {
		out = append(out, fmt.Sprintf("(%s)^%d", p.Poly, p.Power))
	}
	return strings.Join(out, " ")
}

// shown are numbers as a string.
func shown[T any](l []T) string {
	return strings.Trim(fmt.Sprint(l), "[]")
}

// factor is an irreducible factor and its power, as a test knows them.
type factor struct {
	f     ratios
	power int
}

func raised(f ratios, power int) ratios {
	product := numbers(1)
	for range power {
		product = product.times(f)
	}
	return product
}

func productOf(c *big.Rat, l []factor) ratios {
	product := cut(ratios{c})
	for _, x := range l {
		product = product.times(raised(x.f, x.power))
	}
	return product
}

func compare(f, g ratios) int {
	return cmp.Or(cmp.Compare(len(f), len(g)), slices.CompareFunc(f, g, (*big.Rat).Cmp))
}

// inOrder are the factors made monic, those that are the same put together, in the order that Factor promises, as a string.
func inOrder(l []factor) string {
	var all []factor
	for _, x := range l {
		f := x.f.monic()
		i := slices.IndexFunc(all, func(y factor) bool { return compare(y.f, f) == 0 })
		if i < 0 {
			all = append(all, factor{f, x.power})
		} else {
			all[i].power += x.power
		}
	}
	slices.SortFunc(all, func(a, b factor) int { return compare(a.f, b.f) })
	var out []string
	for _, x := range all {
		out = append(out, fmt.Sprintf("(%s)^%d", x.f.text(), x.power))
	}
	return strings.Join(out, " ")
}

// checkFactors checks that Factor finds just these irreducible factors.
func checkFactors(t *testing.T, c *big.Rat, l []factor) {
	t.Helper()
	f := productOf(c, l)
	got, parts, e := poly.Factor(made(t, f))
	if e != api.OK || got.String() != f[len(f)-1].RatString() || listed(parts) != inOrder(l) {
		t.Errorf("Factor of %s: %s, %s, %d instead of %s", f.text(), got, listed(parts), e, inOrder(l))
	}
}

func TestFactorsOfExamples(t *testing.T) {
	for _, x := range [][3]string{
		{"x^4+4", "1", "(x^2-2x+2)^1 (x^2+2x+2)^1"},
		{"x^4+1", "1", "(x^4+1)^1"},
		{"2x^2-2", "2", "(x-1)^1 (x+1)^1"},
		{"-3", "-3", ""}, {"1", "1", ""}, {"1/2", "1/2", ""},
		{"x", "1", "(x)^1"}, {"-x", "-1", "(x)^1"}, {"x^12", "1", "(x)^12"}, {"-2/3x^5", "-2/3", "(x)^5"},
		{"2x-3", "2", "(x-3/2)^1"}, {"-1/2x+3", "-1/2", "(x-6)^1"},
		{"1/2x^5-x^4+1/2x^3", "1/2", "(x-1)^2 (x)^3"},
		{"x^12-1", "1", "(x-1)^1 (x+1)^1 (x^2-x+1)^1 (x^2+1)^1 (x^2+x+1)^1 (x^4-x^2+1)^1"},
		{"x^8-40x^6+352x^4-960x^2+576", "1", "(x^8-40x^6+352x^4-960x^2+576)^1"},
		{"6x^2+5x+1", "6", "(x+1/3)^1 (x+1/2)^1"},
		{"x^6-5x^4+6x^2", "1", "(x)^2 (x^2-3)^1 (x^2-2)^1"},
		{"x^8+1", "1", "(x^8+1)^1"}, {"x^12+1", "1", "(x^4+1)^1 (x^8-x^4+1)^1"}, {"x^12-x^6+1", "1", "(x^12-x^6+1)^1"},
		{"x^12+x^11+x^10+x^9+x^8+x^7+x^6+x^5+x^4+x^3+x^2+x+1", "1", "(x^12+x^11+x^10+x^9+x^8+x^7+x^6+x^5+x^4+x^3+x^2+x+1)^1"},
		{"x^9-x", "1", "(x-1)^1 (x)^1 (x+1)^1 (x^2+1)^1 (x^4+1)^1"},
		{"x^10+x^5+1", "1", "(x^2+x+1)^1 (x^8-x^7+x^5-x^4+x^3-x+1)^1"},
		{"4x^4+1", "4", "(x^2-x+1/2)^1 (x^2+x+1/2)^1"},
		{"x^4-10x^2+1", "1", "(x^4-10x^2+1)^1"},
		{"999999999999999x^12-999999999999998", "999999999999999", "(x^12-999999999999998/999999999999999)^1"},
		{"x^2-999999999999998", "1", "(x^2-999999999999998)^1"},
		{"x^2-1/999998000001", "1", "(x-1/999999)^1 (x+1/999999)^1"},
	} {
		c, l, e := poly.Factor(read(t, x[0]))
		if c.String() != x[1] || listed(l) != x[2] || e != api.OK {
			t.Errorf("Factor of %s: %s, %s, %d", x[0], c, listed(l), e)
		}
	}
}

// eisenstein is an irreducible polynomial of that degree: a prime divides all coefficients but one at an end, and its square does not divide that at the other end.
func (s *source) eisenstein(degree int) ratios {
	p := []int64{2, 3, 5, 7}[s.Below(4)]
	f := make(ratios, degree+1)
	for i := range f {
		f[i] = big.NewRat(p*int64(s.From(-3, 3)), 1)
	}
	unit := int64(s.From(0, 2))*p + 1
	f[0] = big.NewRat(p*(int64(s.From(-1, 1))*p+1), 1)
	f[degree] = big.NewRat(unit, 1)
	if s.Below(2) == 0 {
		slices.Reverse(f)
	}
	return f
}

// irreducible is an irreducible polynomial of that degree: one of Eisenstein's, moved and stretched.
func (s *source) irreducible(degree int) ratios {
	f := s.eisenstein(degree)
	if degree == 1 {
		f = numbers(int64(s.From(-9, 9)), int64(s.From(1, 4)))
	}
	stretch := big.NewRat(int64(s.From(1, 2)), 1)
	move := big.NewRat(int64(s.From(-2, 2)), int64(s.From(1, 2)))
	return f.after(ratios{move, stretch})
}

func isShort(f ratios) bool {
	for _, c := range f {
		if len(strings.TrimPrefix(c.Num().String(), "-")) > 15 || len(c.Denom().String()) > 15 {
			return false
		}
	}
	return true
}

func TestFactorsOfProducts(t *testing.T) {
	s := source{51}
	tried := 0
	for range 1500 {
		var l []factor
		degree := 0
		for degree < 12 {
			x := factor{s.irreducible(s.From(1, 6)), 1}
			if s.Below(4) == 0 {
				x.power = s.From(2, 4)
			}
			degree += (len(x.f) - 1) * x.power
			if degree <= 12 {
				l = append(l, x)
			}
			if s.Below(4) == 0 {
				break
			}
		}
		c := big.NewRat(int64(s.From(1, 9)), int64(s.From(1, 9)))
		if s.Below(2) == 0 {
			c.Neg(c)
		}
		if isShort(productOf(c, l)) {
			tried++
			checkFactors(t, c, l)
		}
	}
	if tried < 1000 {
		t.Errorf("%d products only", tried)
	}
}

// Irreducible polynomials whose roots are sums of square roots have many factors by each prime.
func TestFactorsThatSplitByEachPrime(t *testing.T) {
	one := big.NewRat(1, 1)
	for _, l := range [][]factor{
		{{numbers(1, 0, 0, 0, 1), 1}, {numbers(1, 0, -10, 0, 1), 1}, {numbers(4, 0, -16, 0, 1), 1}},
		{{numbers(576, 0, -960, 0, 352, 0, -40, 0, 1), 1}, {numbers(1, 0, 0, 0, 1), 1}},
		{{numbers(576, 0, -960, 0, 352, 0, -40, 0, 1), 1}, {numbers(-1, 1), 1}, {numbers(1, 1), 1}, {numbers(-2, 0, 1), 1}},
		{{numbers(1, 0, 0, 0, 1), 3}},
		{{numbers(1, 0, 0, 0, 0, 0, 0, 0, 1), 1}, {numbers(1, 0, 1), 2}},
		{{numbers(1, 0, 0, 0, 0, 0, -1, 0, 0, 0, 0, 0, 1), 1}},
	} {
		checkFactors(t, one, l)
	}
	var l []factor
	for i := range int64(12) {
		l = append(l, factor{numbers(i-5, 1), 1})
	}
	checkFactors(t, one, l)
	l = nil
	for i := range int64(12) { // the primes from 3 on divide last coefficients and differences of roots
		l = append(l, factor{numbers(1, i+1), 1})
	}
	checkFactors(t, one, l)
}

// hasFactor reports whether a polynomial of degree 1 or 2 divides f, of degree 4, whose coefficients are integers from -2 to 2. It tries all that could: the roots of f are at most 3 in absolute value.
func hasFactor(f []int64) bool {
	for a := int64(1); a <= 2; a++ {
		for b := int64(-12); b <= 12; b++ {
			for c := int64(-3); c <= 3; c++ {
				if divides([]int64{c, b, a}, f) || divides([]int64{c, a}, f) {
					return true
				}
			}
		}
	}
	return false
}

// divides reports whether g divides f times a power of its last coefficient.
func divides(g, f []int64) bool {
	rest := slices.Clone(f)
	last := g[len(g)-1]
	for k := len(rest) - len(g); k >= 0; k-- {
		top := rest[k+len(g)-1]
		for i := range rest {
			rest[i] *= last
		}
		for i, c := range g {
			rest[k+i] -= top * c
		}
	}
	return !slices.ContainsFunc(rest[:len(g)-1], func(c int64) bool { return c != 0 })
}

// All polynomials of degree 4 with coefficients from -2 to 2: factors are found just if there are some.
func TestIrreducibleAgainstAllFactors(t *testing.T) {
	for n := range 5 * 5 * 5 * 5 * 2 {
		l := []int64{int64(n%5) - 2, int64(n/5%5) - 2, int64(n/25%5) - 2, int64(n/125%5) - 2, int64(n/625) + 1}
		f := numbers(l...)
		_, parts, e := poly.Factor(made(t, f))
		if irreducible := len(parts) == 1 && parts[0].Power == 1; e != api.OK || irreducible == hasFactor(l) {
			t.Errorf("Factor of %s: %s, %d", f.text(), listed(parts), e)
		}
		product := numbers(l[4])
		for _, p := range parts {
			product = product.times(raised(of(p.Poly), p.Power))
		}
		if product.text() != f.text() {
			t.Errorf("Factor of %s: %s", f.text(), listed(parts))
		}
	}
}

func TestLargestFactors(t *testing.T) {
	one := big.NewRat(1, 1)
	f := numbers(-999_999_999_999_998, 0, 0, 0, 0, 0, 0, 0, 0, 0, 0, 0, 1) // twice an odd number
	checkFactors(t, one, []factor{{f, 1}})
	checkFactors(t, big.NewRat(1, 999_999_999_999_999), []factor{{f, 1}})
	checkFactors(t, one, []factor{{numbers(2, 6, 99_998), 1}, {numbers(10, 99_990, 1), 1}, {numbers(-9_999, 1), 1}})
	checkFactors(t, big.NewRat(1, 999_983), []factor{{numbers(999_979, 1), 1}, {numbers(1, 999_979), 1}, {numbers(-2, 0, 0, 1), 1}})
	s := source{52}
	for range 20 {
		f = s.large()
		c, parts, e := poly.Factor(made(t, f))
		if e != api.OK || len(parts) == 0 {
			t.Errorf("%s, %d", listed(parts), e)
		}
		r, _ := new(big.Rat).SetString(c.String())
		product := ratios{r}
		for _, p := range parts {
			product = product.times(raised(of(p.Poly), p.Power))
		}
		if product.text() != f.text() {
			t.Errorf("%s instead of %s", product.text(), f.text())
		}
	}
}

func TestFreeParts(t *testing.T) {
	for _, x := range [][2]string{
		{"x^3-x^2", "(x-1)^1 (x)^2"}, {"5", ""}, {"-1/2", ""}, {"x", "(x)^1"}, {"-2x+1", "(x-1/2)^1"}, {"x^12", "(x)^12"}, {"x^2-1", "(x^2-1)^1"}, {"3x^4-6x^2+3", "(x^2-1)^2"},
		{"x^12-1", "(x^12-1)^1"}, {"x^5-x^3", "(x^2-1)^1 (x)^3"},
	} {
		l, e := poly.Free(read(t, x[0]))
		if listed(l) != x[1] || e != api.OK {
			t.Errorf("Free of %s: %s, %d", x[0], listed(l), e)
		}
	}
	s := source{53}
	for range 1000 {
		f := numbers(int64(s.From(1, 5)))
		for {
			g := f.times(raised(s.some(3, 4, 2), s.From(1, 4)))
			if len(g) > 13 || !isShort(g) {
				break
			}
			if len(g) > 0 {
				f = g
			}
		}
		checkFree(t, f)
	}
}

// checkFree checks free parts by their definition, which allows for just one result.
func checkFree(t *testing.T, f ratios) {
	t.Helper()
	l, e := poly.Free(made(t, f))
	if e != api.OK {
		t.Errorf("Free of %s: %d", f.text(), e)
	}
	product := ratios{f[len(f)-1]}
	last := 0
	all := numbers(1)
	for _, p := range l {
		g := of(p.Poly)
		if len(g) < 2 || g.monic().text() != g.text() || p.Power <= last {
			t.Errorf("Free of %s: %s", f.text(), listed(l))
		}
		last = p.Power
		product, all = product.times(raised(g, p.Power)), all.times(g)
	}
	if product.text() != f.text() {
		t.Errorf("Free of %s: %s", f.text(), listed(l))
	}
	if len(common(all, all.derived())) != 1 {
		t.Errorf("Free of %s: %s has squares", f.text(), listed(l))
	}
}

func TestRoots(t *testing.T) {
	for _, x := range [][2]string{
		{"6x^4+5x^3+x^2", "-1/2 -1/3 0"}, {"x^2-1", "-1 1"}, {"5", ""}, {"x^2-2", ""}, {"x^12", "0"}, {"-2x+3", "3/2"}, {"x^3-x", "-1 0 1"}, {"x^4-5x^2+4", "-2 -1 1 2"}, {"x^3-2x^2+x", "0 1"}, {"x^4-2x^3+x-2", "-1 2"},
		{"x^3-11x^2+10x", "0 1 10"}, {"x^2-1/4", "-1/2 1/2"}, {"999999999999999x^2-x", "0 1/999999999999999"}, {"1/999999999999999x-999999999999999", "999999999999998000000000000001"},
	} {
		l, e := poly.Roots(read(t, x[0]))
		if shown(l) != x[1] || e != api.OK {
			t.Errorf("Roots of %s: %v, %d", x[0], l, e)
		}
	}
}

func TestSpreads(t *testing.T) {
	for _, x := range [][3]string{
		{"x", "x^2-3x", "0 3"}, {"x^2-3x", "x", "0"}, {"x^2+1", "x^2-10x+26", "5"}, {"x^2-10x+26", "x^2+1", ""}, {"5", "x", ""}, {"x", "5", ""}, {"5", "7", ""}, {"x", "x", "0"}, {"x", "x-1", "1"}, {"x-1", "x", ""}, {"x", "x-1/2", ""}, {"x-1/2", "x-7/2", "3"},
		{"x^2-2", "x^2-3", ""}, {"x^2-2", "x^2-4x+2", "2"}, {"x^2-2", "x^2-3x+1/4", ""}, {"x^2-2", "x^2-x-7/4", ""}, {"-3x^2+6", "2x^4-8x^2+8", "0"},
		{"x^3-6x^2+11x-6", "x^3-15x^2+74x-120", "1 2 3 4 5"}, {"x^3", "x^2-2x+1", "1"}, {"x^4+1", "x^4-4x^3+6x^2-4x+2", "1"}, {"x^4+1", "x^4-4x^3+6x^2-4x+3", ""}, {"x^4+1", "x", ""}, {"x", "x^4+1", ""}, {"x^4-2x", "x^2-5x", "0 5"},
		{"x", "1/10000000x-100000000000", "1000000000000000000"}, {"x+1", "1/10000000x-100000000000", ""}, {"x-1", "1/10000000x-100000000000", "999999999999999999"}, {"x", "1/999999999999999x-999999999999999", ""},
	} {
		l, e := poly.Spread(read(t, x[0]), read(t, x[1]))
		if shown(l) != x[2] || e != api.OK {
			t.Errorf("Spread of %s and %s: %v, %d", x[0], x[1], l, e)
		}
	}
}

func TestSpreadsByResultants(t *testing.T) {
	s := source{54}
	found := 0
	for range 400 {
		common := s.some(2, 5, 2)
		move := big.NewRat(int64(s.From(0, 9)), 1)
		f, g := common.times(s.some(2, 5, 2)), common.after(ratios{minus(move), big.NewRat(1, 1)}).times(s.some(2, 5, 2))
		if len(f) == 0 || len(g) == 0 {
			continue
		}
		l, e := poly.Spread(made(t, f), made(t, g))
		var want []int64
		for h := range int64(40) {
			if sylvester(f, g.after(numbers(h, 1))).Sign() == 0 {
				want = append(want, h)
			}
		}
		found += len(want)
		if shown(l) != shown(want) || e != api.OK {
			t.Errorf("Spread of %s and %s: %v, %d instead of %v", f.text(), g.text(), l, e, want)
		}
	}
	if found < 100 {
		t.Errorf("%d numbers only", found)
	}
}

// R4: parts are new each time.
func TestPartsAreNew(t *testing.T) {
	f := read(t, "x^3-x^2")
	first, _ := poly.Free(f)
	first[0] = poly.Part{}
	_, parts, _ := poly.Factor(f)
	parts[1].Power = 9
	roots, _ := poly.Roots(f)
	roots[0] = num.Of(7)
	again, _ := poly.Free(f)
	_, factors, _ := poly.Factor(f)
	if listed(again) != "(x-1)^1 (x)^2" || listed(factors) != "(x-1)^1 (x)^2" || f.String() != "x^3-x^2" {
		t.Errorf("%s, %s, %s", listed(again), listed(factors), f)
	}
}
