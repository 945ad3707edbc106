package quad_test

import (
	"math"
	"math/big"
	"slices"
	"testing"

	"stadda/api"
	"stadda/chance"
	"stadda/quad"
)

type matrix = [2][2]int64

// extremes are numbers that no form, change or number of a call may have.
var extremes = []int64{math.MinInt64, math.MinInt64 + 1, -1 << 32, -1_000_001, 1_000_001, 1 << 32, math.MaxInt64 - 1, math.MaxInt64}

// notForms are data that are no form, each for one reason.
func notForms() []quad.Form {
	list := []quad.Form{{}, {0, 0, 1}, {0, 1, 1}, {-1, 0, 1}, {-1, 0, -1}, {-1, 1, -1}, {1, 2, 1}, {1, -2, 1}, {1, 5, 1}, {1, 0, 0}, {1, 0, -1}, {1, 1_000_000, 1_000_000}, {2, 1_000_000, 1}}
	for _, n := range extremes {
		list = append(list, quad.Form{n, 1, 1_000_000}, quad.Form{1_000_000, n, 1_000_000}, quad.Form{1_000_000, 1, n}, quad.Form{n, n, n})
	}
	return list
}

// source is a row of numbers that are the same in each run.
type source struct {
	chance.Source
}

func (s *source) number(a, b int64) int64 {
	return int64(s.From(int(a), int(b)))
}

// form is some form with numbers up to most.
func (s *source) form(most int64) quad.Form {
	for {
		f := quad.Form{s.number(1, most), s.number(-most, most), s.number(1, most)}
		if f[1]*f[1] < 4*f[0]*f[2] {
			return f
		}
	}
}

// change is some change with numbers up to most, made of turns and shifts.
func (s *source) change(most int64) matrix {
	m := matrix{{1, 0}, {0, 1}}
	for range s.From(0, 12) {
		k := s.number(-3, 3)
		n := composed(m, matrix{{k, -1}, {1, 0}})
		if max(abs(n[0][0]), abs(n[0][1]), abs(n[1][0]), abs(n[1][1])) > most {
			break
		}
		m = n
	}
	return m
}

// like is some form that is equivalent to f, with numbers up to most.
func (s *source) like(f quad.Form, most int64) quad.Form {
	for {
		g, small := moved(f, s.change(1000))
		if small && max(g[0], abs(g[1]), g[2]) <= most {
			return g
		}
	}
}

func abs(n int64) int64 {
	return max(n, -n)
}

func composed(m, n matrix) matrix {
	return matrix{
		{m[0][0]*n[0][0] + m[0][1]*n[1][0], m[0][0]*n[0][1] + m[0][1]*n[1][1]},
		{m[1][0]*n[0][0] + m[1][1]*n[1][0], m[1][0]*n[0][1] + m[1][1]*n[1][1]},
	}
}

// large is the value of f at x, y, whatever its size.
func large(f quad.Form, x, y *big.Int) *big.Int {
	sum := new(big.Int)
	for i, l := range [3][2]*big.Int{{x, x}, {x, y}, {y, y}} {
		product := new(big.Int).Mul(l[0], l[1])
		sum.Add(sum, product.Mul(product, big.NewInt(f[i])))
	}
	return sum
}

func value(f quad.Form, x, y int64) int64 {
	return large(f, big.NewInt(x), big.NewInt(y)).Int64()
}

func disc(f quad.Form) int64 {
	return f[1]*f[1] - 4*f[0]*f[2]
}

// moved is the form whose value at x, y is that of f at m00 x + m01 y, m10 x + m11 y, found by its values at 1, 0 and 0, 1 and 1, 1; false if its numbers are no int64s.
func moved(f quad.Form, m matrix) (quad.Form, bool) {
	n := func(i int64) *big.Int { return big.NewInt(i) }
	a, c := large(f, n(m[0][0]), n(m[1][0])), large(f, n(m[0][1]), n(m[1][1]))
	b := large(f, new(big.Int).Add(n(m[0][0]), n(m[0][1])), new(big.Int).Add(n(m[1][0]), n(m[1][1])))
	b.Sub(b, a).Sub(b, c)
	return quad.Form{a.Int64(), b.Int64(), c.Int64()}, a.IsInt64() && b.IsInt64() && c.IsInt64()
}

// takes tells whether m is a change, and takes f to g.
func takes(f, g quad.Form, m matrix) bool {
	n := func(i, j int) *big.Int { return big.NewInt(m[i][j]) }
	left, right := new(big.Int).Mul(n(0, 0), n(1, 1)), new(big.Int).Mul(n(0, 1), n(1, 0))
	h, small := moved(f, m)
	return left.Sub(left, right).Cmp(big.NewInt(1)) == 0 && small && h == g
}

// isReduced is the definition.
func isReduced(f quad.Form) bool {
	a, b, c := f[0], f[1], f[2]
	return abs(b) <= a && a <= c && (b >= 0 || abs(b) != a && a != c)
}

// simplest is the reduced form of f, by steps that take a, b, c to c, -b, a and b to the rest by 2 a.
func simplest(f quad.Form) quad.Form {
	d := disc(f)
	for !isReduced(f) {
		a, b := f[2], -f[1]
		b -= 2 * a * (b / (2 * a))
		if b > a {
			b -= 2 * a
		}
		if b <= -a {
			b += 2 * a
		}
		f = quad.Form{a, b, (b*b - d) / (4 * a)}
	}
	return f
}

func divisor(numbers ...int64) int64 {
	d := new(big.Int)
	for _, n := range numbers {
		d.GCD(nil, nil, d, new(big.Int).Abs(big.NewInt(n)))
	}
	return d.Int64()
}

func primitive(f quad.Form) bool {
	return divisor(f[0], f[1], f[2]) == 1
}

// primitiveForm is some primitive form of a discriminant from least on.
func (s *source) primitiveForm(least int64) quad.Form {
	for {
		f := s.form(isqrt(-least/3) + 1)
		if primitive(f) && disc(f) >= least {
			return f
		}
	}
}

func isqrt(n int64) int64 {
	return new(big.Int).Sqrt(big.NewInt(n)).Int64()
}

// isDisc is the definition.
func isDisc(d int64) bool {
	return d >= -20_000 && d <= -3 && (d+20_000)%4 <= 1
}

// discs are all discriminants.
func discs() []int64 {
	var list []int64
	for d := int64(-3); d >= -20_000; d-- {
		if isDisc(d) {
			list = append(list, d)
		}
	}
	return list
}

// classes is the class list of d.
func classes(t *testing.T, d int64) []quad.Form {
	t.Helper()
	l, e := quad.Class(d)
	if e != api.OK || len(l) == 0 {
		t.Fatalf("Class of %d: %v, %d", d, l, e)
	}
	return l
}

func product(t *testing.T, f, g quad.Form) quad.Form {
	t.Helper()
	h, e := quad.Product(f, g)
	if e != api.OK {
		t.Fatalf("Product of %v and %v: %v, %d", f, g, h, e)
	}
	return h
}

func unit(t *testing.T, d int64) quad.Form {
	t.Helper()
	u, e := quad.Unit(d)
	if e != api.OK {
		t.Fatalf("Unit of %d: %v, %d", d, u, e)
	}
	return u
}

func characters(t *testing.T, f quad.Form) []int {
	t.Helper()
	l, e := quad.Characters(f)
	if e != api.OK {
		t.Fatalf("Characters of %v: %v, %d", f, l, e)
	}
	return l
}

// symbolOf is the symbol of d at n, by its primes.
func symbolOf(d, n int64) int {
	out := 1
	for p := int64(2); n > 1; p++ {
		if p*p > n {
			p = n
		}
		for ; n%p == 0; n /= p {
			out *= symbolAt(d, p)
		}
	}
	return out
}

// symbolAt is the symbol of d at the prime p, for an odd one by the number of squares that leave the same rest.
func symbolAt(d, p int64) int {
	if p == 2 {
		return [8]int{0, 1, 0, -1, 0, -1, 0, 1}[(d%8+8)%8]
	}
	return big.Jacobi(big.NewInt(d), big.NewInt(p))
}

// fail checks a call that fails: the result must be the zero value.
func fail[T comparable](t *testing.T, what string, got T, e, want api.Errno) {
	t.Helper()
	var zero T
	if got != zero || e != want {
		t.Errorf("%s: %v, %d instead of %v, %d", what, got, e, zero, want)
	}
}

// failList checks a call that fails: the result must be empty.
func failList[T any](t *testing.T, what string, got []T, e, want api.Errno) {
	t.Helper()
	if len(got) != 0 || e != want {
		t.Errorf("%s: %v, %d instead of nothing, %d", what, got, e, want)
	}
}

// rising tells whether each element is greater than the previous one.
func rising(l [][2]int64) bool {
	for i := 1; i < len(l); i++ {
		if slices.Compare(l[i-1][:], l[i][:]) >= 0 {
			return false
		}
	}
	return true
}
