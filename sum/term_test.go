package sum_test

import (
	"math"
	"math/big"
	"testing"

	"stadda/api"
	"stadda/num"
	"stadda/poly"
	"stadda/sum"
)

// P3.3: Check, Value, Total.

func TestParts(t *testing.T) {
	for _, x := range []struct {
		f  string
		is bool
	}{
		{"1", true}, {"-5", true}, {"5", true}, {"x+1", true}, {"5x^3+5x^2+5x+5", true}, {"-5x^3-5x^2-5x-5", true}, {"x^3+1", true},
		{"x+5", true}, {"2x-1", true}, {"2x-5", true}, {"x^2-2", true}, {"-x^2+x+1", true}, {"x^2+1", true}, {"x^3-x^2-5x-2", true},
		{"0", false}, {"6", false}, {"-6", false}, {"x+6", false}, {"6x+1", false}, {"x^3-6x+1", false}, {"100000000000000000000x+1", false},
		{"1/2", false}, {"1/2x+1", false}, {"x+1/2", false}, {"9/2", false}, {"x^4+1", false}, {"x^100+1", false},
		{"18446744073709551617", false}, {"18446744073709551617x+1", false},
		{"x", false}, {"-x^2", false}, {"x^3+x", false}, {"x-1", false}, {"x-2", false}, {"x-3", false}, {"x-4", false}, {"x-5", false}, {"5x-5", false}, {"-2x+4", false}, {"x^2-5x", false},
		{"x^2-1", false}, {"x^2-4", false}, {"x^3-4x^2-4x-5", false}, {"x^3-5x^2+x-5", false}, {"x^3-4x^2+x-4", false}, {"x^3-x^2-5x-3", false},
	} {
		f := read(t, x.f)
		for i, y := range []sum.Term{{Top: f, Bottom: read(t, "x+1"), First: num.Of(1)}, {Top: read(t, "x+1"), Bottom: f, First: num.Of(1)}, {Top: f, Bottom: f, First: num.Of(-1)}} {
			e := sum.Check(y)
			if x.is && e != api.OK || !x.is && e != api.ErrTerm {
				t.Errorf("Check with %s, %d: %d", x.f, i, e)
			}
		}
	}
}

func TestAllPartsWithShortCoefficients(t *testing.T) {
	for i := range 7 * 7 * 7 * 7 {
		f := numbers(int64(i%7-3), int64(i/7%7-3), int64(i/49%7-3), int64(i/343-3)).times(numbers(1))
		e := sum.Check(sum.Term{Top: made(t, f), Bottom: read(t, "1"), First: num.Of(1)})
		if (e == api.OK) != isPart(f) || e != api.OK && e != api.ErrTerm {
			t.Errorf("Check with %s: %d", made(t, f), e)
		}
	}
}

func TestFirstValues(t *testing.T) {
	for _, x := range []struct {
		first string
		is    bool
	}{
		{"1", true}, {"-1", true}, {"999999", true}, {"-999999", true}, {"1/999999", true}, {"-999999/999998", true}, {"100000/3", true},
		{"0", false}, {"1000000", false}, {"-1000000", false}, {"1/1000000", false}, {"-1/1000001", false}, {"1000001/1000000", false}, {"18446744073709551617", false}, {"1/18446744073709551617", false},
	} {
		y := sum.Term{Top: read(t, "2"), Bottom: read(t, "x+1"), First: fraction(t, x.first)}
		if e := sum.Check(y); x.is && e != api.OK || !x.is && e != api.ErrTerm {
			t.Errorf("Check with %s first: %d", x.first, e)
		}
	}
}

func TestWhatIsNoTerm(t *testing.T) {
	one := poly.Poly{}
	one, _ = one.Add(read(t, "1"))
	for i, y := range []sum.Term{{}, {Top: one, Bottom: one}, {Top: one, First: num.Of(1)}, {Bottom: one, First: num.Of(1)}, {Top: read(t, "x-1"), Bottom: one, First: num.Of(1)}, {Top: one, Bottom: read(t, "7"), First: num.Of(1)}, {Top: one, Bottom: one, First: num.Of(1_000_000)}} {
		if e := sum.Check(y); e != api.ErrTerm {
			t.Errorf("Check of %d: %d", i, e)
		}
		for _, n := range []int{0, 3, -1, 1001, math.MinInt, math.MaxInt} {
			v, e := sum.Value(y, n)
			failRat(t, "Value", v, e, api.ErrTerm)
			v, e = sum.Total(y, n, n)
			failRat(t, "Total", v, e, api.ErrTerm)
			v, e = sum.Total(y, 0, n)
			failRat(t, "Total", v, e, api.ErrTerm)
		}
		p, q, ok, e := sum.Closed(y)
		if p.Degree() != -1 || q.Degree() != -1 || ok || e != api.ErrTerm {
			t.Errorf("Closed of %d: %s, %s, %t, %d", i, p, q, ok, e)
		}
		for _, p := range []poly.Poly{{}, one, read(t, "-1"), read(t, "x")} {
			if sum.IsClosed(y, p, one) {
				t.Errorf("IsClosed of %d and %s", i, p)
			}
		}
	}
}

func TestValuesAndTotals(t *testing.T) {
	s := source{311}
	for range 100 {
		y := s.term(t, 3)
		l := values(y, 30)
		for n, r := range l {
			v, e := sum.Value(y, n)
			wantRat(t, "Value of "+name(y), v, e, r)
		}
		from := s.From(0, 30)
		total := new(big.Rat)
		for to := from - 1; to <= 30; to++ {
			if to >= from {
				total.Add(total, l[to])
			}
			v, e := sum.Total(y, from, to)
			wantRat(t, "Total of "+name(y), v, e, total)
		}
	}
}

func TestFactorials(t *testing.T) {
	y := term(t, "x+1", "1")
	for n, text := range map[int]string{0: "1", 1: "1", 2: "2", 5: "120", 20: "2432902008176640000"} {
		if v, e := sum.Value(y, n); e != api.OK || v.String() != text {
			t.Errorf("%d!: %s, %d", n, v, e)
		}
	}
	v, e := sum.Value(y, 1000)
	wantRat(t, "1000!", v, e, new(big.Rat).SetInt(new(big.Int).MulRange(1, 1000)))
}

// The longest values and totals are small: there is no term with ErrSize.
func TestLongestValues(t *testing.T) {
	for _, parts := range [][2]string{{"5x^3+5x^2+5x+5", "1"}, {"1", "5x^3+5x^2+5x+5"}, {"5x^3+5x^2+5x+4", "5x^3+5x^2+5x+3"}, {"x+1", "x+2"}} {
		y := term(t, parts[0], parts[1])
		y.First = fraction(t, "-999999/999998")
		// The value and the total, over the same denominator.
		value, total, under := big.NewInt(-999999), big.NewInt(-999999), big.NewInt(999998)
		for n := range int64(1000) {
			a, b := of(y.Top).value(n).Num(), of(y.Bottom).value(n).Num()
			value.Mul(value, a)
			total.Mul(total, b).Add(total, value)
			under.Mul(under, b)
		}
		v, e := sum.Value(y, 1000)
		wantRat(t, "Value of "+name(y), v, e, new(big.Rat).SetFrac(value, under))
		v, e = sum.Total(y, 1000, 1000)
		wantRat(t, "Total of "+name(y), v, e, new(big.Rat).SetFrac(value, under))
		v, e = sum.Total(y, 0, 1000)
		wantRat(t, "Total of "+name(y), v, e, new(big.Rat).SetFrac(total, under))
	}
}

func TestValueOutOfRange(t *testing.T) {
	y := term(t, "x+1", "x+2")
	for _, n := range []int{-1, 1001, math.MinInt, math.MaxInt} {
		v, e := sum.Value(y, n)
		failRat(t, "Value", v, e, api.ErrArg)
	}
}

func TestRangesOfTotals(t *testing.T) {
	y := term(t, "1", "1")
	for _, x := range []struct {
		from, to int
		total    int64
		e        api.Errno
	}{
		{0, -1, 0, api.OK}, {0, 0, 1, api.OK}, {5, 4, 0, api.OK}, {5, 5, 1, api.OK}, {3, 9, 7, api.OK}, {0, 1000, 1001, api.OK}, {1000, 999, 0, api.OK}, {1000, 1000, 1, api.OK},
		{0, -2, 0, api.ErrArg}, {5, 3, 0, api.ErrArg}, {5, -1, 0, api.ErrArg}, {0, 1001, 0, api.ErrArg}, {1000, 1001, 0, api.ErrArg}, {1000, 998, 0, api.ErrArg}, {1001, 1000, 0, api.ErrArg}, {1001, 1001, 0, api.ErrArg}, {-1, -2, 0, api.ErrArg}, {-1, -1, 0, api.ErrArg}, {-1, 5, 0, api.ErrArg},
		{math.MinInt, math.MaxInt, 0, api.ErrArg}, {math.MinInt, 0, 0, api.ErrArg}, {math.MaxInt, 0, 0, api.ErrArg}, {0, math.MinInt, 0, api.ErrArg}, {0, math.MaxInt, 0, api.ErrArg}, {math.MaxInt, math.MaxInt, 0, api.ErrArg}, {math.MinInt, math.MinInt, 0, api.ErrArg},
	} {
		v, e := sum.Total(y, x.from, x.to)
		if n, ok := v.Num().Int64(); e != x.e || !ok || n != x.total || v.Den().String() != "1" {
			t.Errorf("Total from %d to %d: %s, %d instead of %d, %d", x.from, x.to, v, e, x.total, x.e)
		}
	}
}
