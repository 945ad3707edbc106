package sum_test

import (
	"math/big"
	"math/bits"
	"strings"
	"testing"

	"stadda/api"
	"stadda/num"
	"stadda/poly"
	"stadda/sum"
)

// P3.4: Closed, IsClosed.

// isClosed is the definition of a closed form.
func isClosed(y sum.Term, p, q ratios) bool {
	if len(q) == 0 || q[len(q)-1].Cmp(big.NewRat(1, 1)) != 0 {
		return false
	}
	top, bottom := of(y.Top), of(y.Bottom)
	left := p.shifted(1).times(top).times(q).minus(p.times(q.shifted(1)).times(bottom))
	right := q.times(q.shifted(1)).times(bottom)
	return len(left.minus(right)) == 0 && common(p, q) == 0
}

// hasClosed finds out in another way whether there is a closed form, by a prime that is too large to be in the way. Q divides Q(x + 1) Bottom, thus the product G of Bottom(x), .., Bottom(x + 11), as no roots of Bottom and Top are further apart. So P / Q is N / G for a polynomial N with N(x + 1) Top(x) - N(x) Bottom(x + 12) = G(x) Bottom(x + 12), whose degree is at most 36 + 1 or the 46 or less at which the highest powers cancel out.
func hasClosed(y sum.Term) bool {
	top, last := of(y.Top), of(y.Bottom).shifted(12)
	right := last
	for k := range int64(12) {
		right = right.times(of(y.Bottom).shifted(k))
	}
	const degree = 50
	width := len(right)
	var columns []ratios
	power, moved := numbers(1), numbers(1)
	for range degree + 1 {
		column := moved.times(top).minus(power.times(last))
		columns = append(columns, column)
		width = max(width, len(column))
		power, moved = power.times(numbers(0, 1)), moved.times(numbers(1, 1))
	}
	rows := make([][]uint64, width)
	for i := range rows { // the highest powers first
		for j := degree; j >= 0; j-- {
			rows[i] = append(rows[i], rest(columns[j].at(width-1-i)))
		}
		rows[i] = append(rows[i], rest(right.at(width-1-i)))
	}
	return solvable(rows)
}

const prime = 1<<61 - 1

// rest is an integer by the prime.
func rest(r *big.Rat) uint64 {
	return new(big.Int).Mod(r.Num(), big.NewInt(prime)).Uint64()
}

func times(a, b uint64) uint64 {
	high, low := bits.Mul64(a, b)
	return bits.Rem64(high, low, prime)
}

func inverse(a uint64) uint64 {
	product := uint64(1)
	for n := uint64(prime - 2); n > 0; n /= 2 {
		if n%2 == 1 {
			product = times(product, a)
		}
		a = times(a, a)
	}
	return product
}

// solvable reports whether the equations, with what the sums are to be at the end of the rows, have a solution.
func solvable(rows [][]uint64) bool {
	place, last := 0, len(rows[0])-1
	for column := range last {
		pivot := place
		for pivot < len(rows) && rows[pivot][column] == 0 {
			pivot++
		}
		if pivot == len(rows) {
			continue
		}
		rows[place], rows[pivot] = rows[pivot], rows[place]
		back := inverse(rows[place][column])
		for _, row := range rows[place+1:] {
			if c := times(row[column], back); c != 0 {
				for i, x := range rows[place] {
					if x != 0 {
						row[i] = (row[i] + prime - times(c, x)) % prime
					}
				}
			}
		}
		place++
	}
	for _, row := range rows[place:] {
		if row[last] != 0 {
			return false
		}
	}
	return true
}

// checkClosed checks Closed by the definition, and whether there is a closed form by other means; it returns that.
func checkClosed(t *testing.T, y sum.Term) bool {
	t.Helper()
	p, q, ok, e := sum.Closed(y)
	if e != api.OK || ok != hasClosed(y) {
		t.Errorf("Closed of %s: %t, %d instead of %t", name(y), ok, e, hasClosed(y))
	}
	if !ok {
		if p.Degree() != -1 || q.Degree() != -1 {
			t.Errorf("Closed of %s: %s and %s next to false", name(y), p, q)
		}
		return false
	}
	if !isClosed(y, of(p), of(q)) || !sum.IsClosed(y, p, q) {
		t.Errorf("Closed of %s: %s and %s; IsClosed: %t", name(y), p, q, sum.IsClosed(y, p, q))
	}
	if p.Degree() > 60 || q.Degree() > 60 || !areShort(p) || !areShort(q) {
		t.Errorf("Closed of %s: %s and %s are too long", name(y), p, q)
	}
	return true
}

func areShort(f poly.Poly) bool {
	for _, c := range f.Coeffs() {
		if len(strings.TrimPrefix(c.Num().String(), "-")) > 1000 || len(c.Den().String()) > 1000 {
			return false
		}
	}
	return true
}

// known are terms with their closed forms; an empty string is none.
var known = []struct{ top, bottom, p, q string }{
	{"1", "2", "-2", "1"},
	{"2", "1", "1", "1"},
	{"-1", "1", "-1/2", "1"},
	{"1", "1", "x", "1"},
	{"1", "1", "x-7/3", "1"},
	{"5", "5", "x+1", "1"},
	{"x+1", "1", "", ""},
	{"1", "x+1", "", ""},
	{"x+1", "x+2", "", ""},
	{"x^2+2x+1", "x^2+4x+4", "", ""},
	{"4x+2", "x+1", "", ""},
	{"x^2+4x+4", "x+1", "1", "x+1"},
	{"x+2", "x+1", "1/2x", "1"},
	{"x+1", "x+3", "-x-2", "1"},
	{"x+1", "x+3", "x^2+2x", "1"},
	{"2x+1", "2x+2", "2x", "1"},
	{"2x-1", "2x+2", "-2x", "1"},
	{"2x-1", "2x+3", "-2x^2-x", "1"},
	{"x+5", "x+1", "1/5x", "1"},
	{"x+1", "2x+2", "-2", "1"},
	{"x^2+2x+1", "x^2+4x+3", "-x-2", "1"},
	{"-x-1", "x+3", "", ""},
	{"2x+5", "x+1", "", ""},
	{"x^2-2", "x^2+2x-1", "", ""},
	{"x^2+2x+2", "x^2+1", "1/3x^3-1/2x^2+7/6x", "x^2+1"},
}

func TestKnownClosedForms(t *testing.T) {
	for _, x := range known {
		y := term(t, x.top, x.bottom)
		if ok := checkClosed(t, y); ok != (x.p != "") {
			t.Errorf("Closed of %s: %t", name(y), ok)
		}
		if x.p == "" {
			continue
		}
		p, q := read(t, x.p), read(t, x.q)
		if !isClosed(y, of(p), of(q)) || !sum.IsClosed(y, p, q) {
			t.Errorf("%s: %s and %s are no closed form", name(y), p, q)
		}
	}
}

// The first value does not matter.
func TestClosedFormsOfMultiples(t *testing.T) {
	for _, first := range []string{"-1", "999999", "-1/999999", "2/3"} {
		for _, x := range known {
			y := term(t, x.top, x.bottom)
			y.First = fraction(t, first)
			if ok := checkClosed(t, y); ok != (x.p != "") || ok && !sum.IsClosed(y, read(t, x.p), read(t, x.q)) {
				t.Errorf("%s: %t", name(y), ok)
			}
		}
	}
}

func TestClosedFormsOfShortTerms(t *testing.T) {
	var parts []ratios
	for i := range 25 {
		if f := numbers(int64(i%5-2), int64(i/5-2)); isPart(f) {
			parts = append(parts, f)
		}
	}
	closed := 0
	for _, top := range parts {
		for _, bottom := range parts {
			if checkClosed(t, sum.Term{Top: made(t, top), Bottom: made(t, bottom), First: num.Of(1)}) {
				closed++
			}
		}
	}
	if closed < 30 || closed == len(parts)*len(parts) {
		t.Errorf("%d of %d", closed, len(parts)*len(parts))
	}
}

func TestClosedFormsOfSomeTerms(t *testing.T) {
	s := source{321}
	closed := 0
	for range 400 {
		if checkClosed(t, s.term(t, s.From(0, 3))) {
			closed++
		}
	}
	if closed < 40 || closed > 360 {
		t.Errorf("%d closed forms", closed)
	}
}

// Terms like these make the degrees of P and Q high: some roots are apart by many, or the highest powers cancel out at a high degree.
func TestLongClosedForms(t *testing.T) {
	for _, x := range [][2]string{
		{"x^2+5x+1", "x^2-5x+1"}, {"x^2+5x-5", "x^2-5x-5"}, {"x^2+5x-2", "-x^2+5x+2"}, {"-x^2-x+5", "-x^2-5x+1"}, {"-x^2+5x-5", "-x^2-5x+2"}, {"x^2-4x-1", "x^2+5x+4"},
		{"x^3+4x^2+2x-5", "x^3-5x^2+5x-2"}, {"x^3+4x^2+4x-2", "-2x^3+4x^2+4"}, {"-x-5", "3x+3"}, {"2x+3", "2x-5"}, {"2x-5", "2x+5"}, {"x+5", "x+1"},
	} {
		checkClosed(t, term(t, x[0], x[1]))
	}
}

func TestIsClosed(t *testing.T) {
	for _, x := range []struct {
		top, bottom, p, q string
		is                bool
	}{
		{"1", "2", "-2", "1", true}, {"1", "2", "2", "1", false}, {"1", "2", "0", "1", false}, {"1", "2", "-2", "0", false}, {"1", "2", "0", "0", false},
		{"1", "2", "2", "-1", false}, {"1", "2", "-4", "2", false}, {"1", "2", "-1", "1/2", false}, {"1", "2", "-2x", "x", false}, {"1", "2", "-2x-2", "x+1", false},
		{"1", "2", "-2x-14", "x+7", false}, {"1", "2", "-2x+14", "x-7", false}, {"1", "2", "-2x^2-6", "x^2+3", false}, {"1", "2", "-2x^2+1/7", "x^2-1/14", false},
		{"1", "1", "x", "1", true}, {"1", "1", "x+1000", "1", true}, {"1", "1", "2x", "1", false}, {"1", "1", "x^2", "1", false}, {"1", "1", "x^2", "x", false}, {"1", "1", "1", "1", false},
		{"x^2+4x+4", "x+1", "1", "x+1", true}, {"x^2+4x+4", "x+1", "1", "x+2", false}, {"x^2+4x+4", "x+1", "1", "x", false}, {"x^2+4x+4", "x+1", "x+1", "x^2+2x+1", false}, {"x^2+4x+4", "x+1", "x+2", "x^2+3x+2", false}, {"x^2+4x+4", "x+1", "x+3", "x^2+4x+3", false}, {"x^2+4x+4", "x+1", "x", "x^2+x", false}, {"x^2+4x+4", "x+1", "x-9", "x^2-8x-9", false}, {"x^2+4x+4", "x+1", "-1", "-x-1", false}, {"x^2+4x+4", "x+1", "2", "2x+2", false}, {"x^2+4x+4", "x+1", "-1", "x+1", false},
		{"x+1", "1", "x", "1", false}, {"x+1", "1", "1", "x", false}, {"x+1", "x+2", "x", "1", false}, {"x+1", "x+2", "x", "2", false},
		{"x+1", "x+3", "-x-2", "1", true}, {"x+1", "x+3", "x^2+2x", "1", true}, {"x+1", "x+3", "7x^2+20x+12", "1", true}, {"x+1", "x+3", "7x^2+20x+13", "1", false}, {"x+1", "x+3", "-x-2", "x", false},
		{"x^2+2x+2", "x^2+1", "1/3x^3-1/2x^2+7/6x", "x^2+1", true}, {"x^2+2x+2", "x^2+1", "1/3x^3-1/2x^2+7/6x+1", "x^2+1", true}, {"x^2+2x+2", "x^2+1", "1/3x^3-1/2x^2+7/6x", "x^2+2", false},
	} {
		y := term(t, x.top, x.bottom)
		p, q := read(t, x.p), read(t, x.q)
		if isClosed(y, of(p), of(q)) != x.is || sum.IsClosed(y, p, q) != x.is {
			t.Errorf("%s: IsClosed of %s and %s is not %t", name(y), x.p, x.q, x.is)
		}
	}
}

// Closed forms, changed in some way.
func TestIsClosedByItsDefinition(t *testing.T) {
	s := source{322}
	is, isNot := 0, 0
	for is < 100 {
		y := s.term(t, 3)
		a, b, ok, _ := sum.Closed(y)
		if !ok {
			continue
		}
		p, q := of(a), of(b)
		switch s.Below(8) {
		case 0:
			p = p.plus(s.some(2, 2, 1))
		case 1:
			q = q.plus(s.some(2, 2, 1))
		case 2:
			factor := s.some(2, 3, 2).times(numbers(0, 1)).plus(numbers(1))
			p, q = p.times(factor), q.times(factor)
		case 3:
			p, q = p.times(numbers(int64(s.From(-3, 3)), 1)), q.times(numbers(int64(s.From(-3, 3)), 1))
		case 4:
			k := int64(s.From(-2, 2))
			p, q = p.shifted(k), q.shifted(k)
		case 5: // plus a multiple of 1 / t
			y = term(t, "x+1", "x+3")
			p, q = numbers(-2, -1).plus(numbers(2, 3, 1).scaled(big.NewRat(int64(s.From(-9, 9)), 7))), numbers(1)
		}
		definition := isClosed(y, p, q)
		if sum.IsClosed(y, made(t, p), made(t, q)) != definition {
			t.Errorf("%s: IsClosed of %s and %s is not %t", name(y), made(t, p), made(t, q), definition)
		}
		if definition {
			is++
		} else {
			isNot++
		}
	}
	if isNot < 30 {
		t.Errorf("%d closed forms only are none", isNot)
	}
}

// Closed forms with any coefficients: 1 / ((n + 1) (n + 2)) has -x - 2 + c (x^2 + 3x + 2) and 1.
func TestDigitsOfClosedForms(t *testing.T) {
	y := term(t, "x+1", "x+3")
	ten := func(n int) *big.Int { return new(big.Int).Exp(big.NewInt(10), big.NewInt(int64(n)), nil) }
	third := new(big.Int).Quo(ten(1000), big.NewInt(3))
	for i, x := range []struct {
		c  *big.Rat
		is bool
	}{
		{new(big.Rat).SetInt(ten(998)), true},
		{new(big.Rat).SetInt(third), true},
		{new(big.Rat).SetInt(new(big.Int).Neg(third)), false}, // 3 c - 1 is -10^1000
		{new(big.Rat).SetInt(new(big.Int).Quo(ten(1000), big.NewInt(2))), false},
		{new(big.Rat).SetInt(ten(1000)), false},
		{new(big.Rat).SetInt(new(big.Int).Neg(ten(1000))), false},
		{new(big.Rat).SetInt(ten(9000)), false},
		{new(big.Rat).SetFrac(big.NewInt(1), ten(999)), true},
		{new(big.Rat).SetFrac(big.NewInt(-1), ten(999)), true},
		{new(big.Rat).SetFrac(big.NewInt(1), ten(1000)), false},
	} {
		p := numbers(-2, -1).plus(numbers(2, 3, 1).scaled(x.c))
		if !isClosed(y, p, numbers(1)) || sum.IsClosed(y, made(t, p), read(t, "1")) != x.is {
			t.Errorf("case %d: IsClosed is not %t", i, x.is)
		}
	}
}

// What is a closed form at 0, 1, 2 and so on need not be one.
func TestIsClosedAtManyIntegers(t *testing.T) {
	for _, x := range [][4]string{{"1", "2", "-2", "1"}, {"x+1", "x+3", "-x-2", "1"}, {"x^2+4x+4", "x+1", "1", "x+1"}} {
		y := term(t, x[0], x[1])
		p, q := of(read(t, x[2])), of(read(t, x[3]))
		for n := 2; n <= 60; n++ {
			gap := choose(n)
			if sum.IsClosed(y, made(t, p.plus(gap)), made(t, q)) {
				t.Errorf("%s: IsClosed of what is a closed form at 0, .., %d", name(y), n-2)
			}
			monic := gap.scaled(new(big.Rat).Inv(gap[n]))
			if sum.IsClosed(y, made(t, p), made(t, q.plus(monic))) {
				t.Errorf("%s: IsClosed of what is a closed form at 0, .., %d", name(y), n-2)
			}
		}
	}
}

func TestDegreesOfClosedForms(t *testing.T) {
	y := term(t, "1", "1")
	for _, x := range []struct {
		p, q string
		is   bool
	}{{"x", "1", true}, {"x^60", "1", false}, {"x^61", "x^60", false}, {"x^100", "1", false}, {"x", "x^61", false}, {"x", "x^100", false}, {"x^60", "x^59", false}, {"x^60+x", "x^60", false}} {
		if sum.IsClosed(y, read(t, x.p), read(t, x.q)) != x.is {
			t.Errorf("IsClosed of %s and %s is not %t", x.p, x.q, x.is)
		}
	}
}

// Long coefficients with denominators that have nothing in common come to numbers that are not small.
func TestIsClosedOfLongPolynomials(t *testing.T) {
	s := source{323}
	long := func(n int) *big.Int {
		out := new(big.Int)
		for range n {
			out.Lsh(out, 64).Or(out, new(big.Int).SetUint64(s.Next()))
		}
		return out
	}
	some := func(n int) ratios {
		var f ratios
		for range 60 {
			f = append(f, new(big.Rat).SetFrac(long(n), long(n)))
		}
		return append(f, big.NewRat(1, 1))
	}
	y := term(t, "x+1", "x+3")
	for _, n := range []int{1, 25, 51} {
		p, q := made(t, some(n)), made(t, some(n))
		for i, pair := range [][2]poly.Poly{{p, q}, {p, p}, {p, read(t, "1")}, {read(t, "-x-2"), q}} {
			if sum.IsClosed(y, pair[0], pair[1]) {
				t.Errorf("IsClosed of pair %d of %d words", i, n)
			}
		}
	}
	factor := some(12)[45:]
	if sum.IsClosed(y, made(t, factor.times(numbers(-2, -1))), made(t, factor)) {
		t.Error("IsClosed of multiples")
	}
}
