package num_test

import (
	"math/big"
	"strings"
	"testing"

	"stadda/api"
	"stadda/num"
)

// P1.2: fractions.

func TestZeroRat(t *testing.T) {
	var zero num.Rat
	if zero.String() != "0" || zero.Num().String() != "0" || zero.Den().String() != "1" || zero.Sign() != 0 || zero.Cmp(num.Of(0)) != 0 || zero.Floor().String() != "0" {
		t.Errorf("zero value: %s, %s, %s, %d", zero, zero.Num(), zero.Den(), zero.Sign())
	}
	third := fraction(t, "1/3")
	r, e := zero.Add(third)
	wantRat(t, "0 + 1/3", r, e, "1/3")
	r, e = third.Sub(third)
	wantRat(t, "1/3 - 1/3", r, e, "0")
	wantInt(t, "its denominator", r.Den(), api.OK, big.NewInt(1))
	r, e = third.Mul(zero)
	wantRat(t, "1/3 * 0", r, e, "0")
	r, e = zero.Quo(third)
	wantRat(t, "0 / (1/3)", r, e, "0")
	wantRat(t, "-0", zero.Neg(), api.OK, "0")
}

func TestCopiesOfFractionsAreIndependent(t *testing.T) {
	r := fraction(t, "1/3")
	s := r
	r, _ = r.Add(num.Of(1))
	wantRat(t, "the copy", s, api.OK, "1/3")
	wantRat(t, "the sum", r, api.OK, "4/3")
}

func TestOfFromAndMake(t *testing.T) {
	for _, m := range int64s {
		wantRat(t, "Of", num.Of(m), api.OK, big.NewInt(m).String())
		wantRat(t, "From", num.From(num.Whole(m)), api.OK, big.NewInt(m).String())
		for _, n := range int64s {
			r, e := num.Make(m, n)
			if n == 0 {
				failRat(t, "Make with 0 below", r, e, api.ErrZero)
			} else {
				wantRat(t, "Make", r, e, ratio(big.NewInt(m), big.NewInt(n)))
			}
		}
	}
	limit := plus(power(api.MaxBits), -1)
	wantRat(t, "From", num.From(integer(t, limit)), api.OK, limit.String())
}

func TestParseRefusesOtherForms(t *testing.T) {
	for _, s := range []string{"", "-", "/", "1/", "/2", "-/2", "-0", "01", "+1", "1/1", "3/1", "0/1", "0/3", "-0/3", "2/2", "4/2", "2/4", "-6/9", "1/0", "0/0", "1/-2", "-1/-2", "1/+2", "1/02", "01/2", "-01/2", "1/2/3", "1//2", "1/2/", "1 /2", "1/ 2", " 1/2", "1/2 ", "1.5", "1/x", "x/2", "18446744073709551616/36893488147419103232"} {
		r, e := num.Parse(s)
		failRat(t, "Parse of "+s, r, e, api.ErrForm)
	}
}

func TestParseOrderOfErrors(t *testing.T) {
	threes := strings.Repeat("3", 34999)
	large := power(api.MaxBits)
	for _, x := range []struct {
		name, s string
		e       api.Errno
	}{
		{"70001 digits", strings.Repeat("9", 70001), api.ErrLong},
		{"70001 letters", strings.Repeat("x", 70001), api.ErrLong},
		{"70000 digits", strings.Repeat("9", 70000), api.ErrSize},
		{"70000 letters", strings.Repeat("x", 70000), api.ErrForm},
		{"40000 digits", strings.Repeat("9", 40000), api.ErrSize},
		{"large numbers with a common divisor", threes + "0/" + threes, api.ErrForm},
		{"a large number by itself", threes + "/" + threes, api.ErrForm},
		{"large numbers, and a zero before one", threes + "/0" + threes, api.ErrForm},
		{"a large numerator", threes + "/2", api.ErrSize},
		{"a large denominator", "1/" + threes, api.ErrSize},
		{"2^MaxBits", large.String(), api.ErrSize},
		{"1/2^MaxBits", "1/" + large.String(), api.ErrSize},
		{"-2^MaxBits/3", "-" + large.String() + "/3", api.ErrSize},
	} {
		r, e := num.Parse(x.s)
		failRat(t, x.name, r, e, x.e)
	}
	limit := plus(large, -1).String()
	for _, s := range []string{limit, "-" + limit, "1/" + limit, "-" + limit + "/" + power(api.MaxBits-1).String()} {
		r, e := num.Parse(s)
		wantRat(t, "Parse at the limit", r, e, s)
	}
}

func TestPartsOfFractions(t *testing.T) {
	s := source{6}
	for range 1000 {
		m, n := s.number(5), s.number(5)
		if n.Sign() == 0 {
			continue
		}
		text := ratio(m, n)
		want := new(big.Rat).SetFrac(m, n)
		r := fraction(t, text)
		wantRat(t, "String", r, api.OK, text)
		wantInt(t, "Num", r.Num(), api.OK, want.Num())
		wantInt(t, "Den", r.Den(), api.OK, want.Denom())
		wantRat(t, "Neg", r.Neg(), api.OK, new(big.Rat).Neg(want).RatString())
		// Div of math/big rounds down for a denominator greater than 0.
		wantInt(t, "Floor", r.Floor(), api.OK, new(big.Int).Div(want.Num(), want.Denom()))
		if r.Sign() != want.Sign() {
			t.Errorf("Sign of %s: %d", r, r.Sign())
		}
	}
	for text, floor := range map[string]int64{"-7/2": -4, "-1/2": -1, "1/2": 0, "7/2": 3, "-3": -3, "3": 3, "0": 0} {
		wantInt(t, "Floor of "+text, fraction(t, text).Floor(), api.OK, big.NewInt(floor))
	}
}

func TestFractionArithmetic(t *testing.T) {
	s := source{7}
	for range 3000 {
		x, y := someRatio(&s), someRatio(&s)
		if s.Below(10) == 0 {
			y.Neg(x)
		}
		a, b := fraction(t, x.RatString()), fraction(t, y.RatString())
		sum, e := a.Add(b)
		wantRat(t, "Add", sum, e, new(big.Rat).Add(x, y).RatString())
		difference, e := a.Sub(b)
		wantRat(t, "Sub", difference, e, new(big.Rat).Sub(x, y).RatString())
		product, e := a.Mul(b)
		wantRat(t, "Mul", product, e, new(big.Rat).Mul(x, y).RatString())
		if got := a.Cmp(b); got != x.Cmp(y) {
			t.Errorf("Cmp of %s and %s: %d", a, b, got)
		}
		ratio, e := a.Quo(b)
		if y.Sign() == 0 {
			failRat(t, "Quo by 0", ratio, e, api.ErrZero)
		} else {
			wantRat(t, "Quo", ratio, e, new(big.Rat).Quo(x, y).RatString())
		}
		wantRat(t, "the argument afterwards", a, api.OK, x.RatString())
		wantRat(t, "the argument afterwards", b, api.OK, y.RatString())
	}
}

// someRatio has a denominator of few primes, so that sums and products are often to be reduced.
func someRatio(s *source) *big.Rat {
	d := big.NewInt(1)
	for range s.Below(12) {
		d.Mul(d, big.NewInt([]int64{2, 3, 5, 1 << 40, 1<<61 - 1}[s.Below(5)]))
	}
	return new(big.Rat).SetFrac(s.number(4), d)
}

func TestCmpOfNeighbours(t *testing.T) {
	l := []string{"-7/2", "-10/3", "-1", "-1/2", "-1/3", "0", "1/1000000007", "1/3", "166666667/500000000", "1/2", "1", "10/3", "7/2"}
	for i, x := range l {
		for j, y := range l {
			want := big.NewInt(int64(i - j)).Sign()
			if got := fraction(t, x).Cmp(fraction(t, y)); got != want {
				t.Errorf("Cmp of %s and %s: %d", x, y, got)
			}
		}
	}
	limit := plus(power(api.MaxBits), -1)
	a, b := fraction(t, ratio(limit, plus(limit, -1))), fraction(t, ratio(plus(limit, -1), plus(limit, -2)))
	if a.Cmp(b) != -1 || b.Cmp(a) != 1 || a.Cmp(a) != 0 {
		t.Errorf("Cmp at the limit: %d, %d, %d", a.Cmp(b), b.Cmp(a), a.Cmp(a))
	}
}

func TestFractionsAtTheLimit(t *testing.T) {
	limit := plus(power(api.MaxBits), -1)
	greatest, least := fraction(t, limit.String()), fraction(t, "1/"+limit.String())
	half := fraction(t, "1/2")

	r, e := greatest.Mul(least)
	wantRat(t, "greatest * least", r, e, "1")
	r, e = least.Quo(least)
	wantRat(t, "least / least", r, e, "1")
	r, e = num.Of(1).Quo(greatest)
	wantRat(t, "1 / greatest", r, e, "1/"+limit.String())
	r, e = num.Of(-1).Quo(least)
	wantRat(t, "-1 / least", r, e, "-"+limit.String())
	// What the sum is made of is not small, but the sum is.
	r, e = least.Sub(least)
	wantRat(t, "least - least", r, e, "0")
	r, e = fraction(t, ratio(plus(limit, -1), limit)).Add(least)
	wantRat(t, "(limit - 1) / limit + 1 / limit", r, e, "1")
	r, e = fraction(t, ratio(limit, power(99999))).Mul(fraction(t, ratio(power(99999), limit)))
	wantRat(t, "limit / power * power / limit", r, e, "1")

	r, e = greatest.Add(num.Of(1))
	failRat(t, "greatest + 1", r, e, api.ErrSize)
	r, e = greatest.Add(half)
	failRat(t, "greatest + 1/2", r, e, api.ErrSize)
	r, e = greatest.Neg().Sub(num.Of(1))
	failRat(t, "-greatest - 1", r, e, api.ErrSize)
	r, e = least.Mul(half)
	failRat(t, "least * 1/2", r, e, api.ErrSize)
	r, e = least.Quo(num.Of(2))
	failRat(t, "least / 2", r, e, api.ErrSize)
	r, e = least.Quo(greatest)
	failRat(t, "least / greatest", r, e, api.ErrSize)
	r, e = greatest.Quo(half)
	failRat(t, "greatest / (1/2)", r, e, api.ErrSize)
	r, e = least.Add(half)
	failRat(t, "least + 1/2", r, e, api.ErrSize)
	r, e = greatest.Quo(num.Rat{})
	failRat(t, "greatest / 0", r, e, api.ErrZero)
}
