package num_test

import (
	"math"
	"math/big"
	"strings"
	"testing"

	"stadda/api"
	"stadda/num"
)

// P1.1: integers.

var int64s = []int64{math.MinInt64, math.MinInt64 + 1, -1 << 32, -19, -2, -1, 0, 1, 2, 3, 10, 1 << 32, math.MaxInt64 - 1, math.MaxInt64}

func TestZeroInt(t *testing.T) {
	var zero num.Int
	n, ok := zero.Int64()
	if zero.String() != "0" || zero.Sign() != 0 || zero.Cmp(num.Whole(0)) != 0 || n != 0 || !ok {
		t.Errorf("zero value: %s, sign %d, %d, %t", zero, zero.Sign(), n, ok)
	}
	seven := num.Whole(7)
	a, e := zero.Add(seven)
	wantInt(t, "0 + 7", a, e, big.NewInt(7))
	a, e = seven.Mul(zero)
	wantInt(t, "7 * 0", a, e, new(big.Int))
	a, e = zero.Root()
	wantInt(t, "root of 0", a, e, new(big.Int))
	wantInt(t, "-0", zero.Neg(), api.OK, new(big.Int))
	if zero.Neg().Sign() != 0 || zero.Neg().Cmp(zero) != 0 {
		t.Error("-0 is not 0")
	}
}

func TestCopiesOfIntegersAreIndependent(t *testing.T) {
	a := integer(t, power(200))
	b := a
	a, _ = a.Add(num.Whole(1))
	wantInt(t, "the copy", b, api.OK, power(200))
	wantInt(t, "the sum", a, api.OK, plus(power(200), 1))
}

func TestWholeAndInt64(t *testing.T) {
	for _, n := range int64s {
		a := num.Whole(n)
		wantInt(t, "Whole", a, api.OK, big.NewInt(n))
		if m, ok := a.Int64(); m != n || !ok {
			t.Errorf("Int64 of %d: %d, %t", n, m, ok)
		}
	}
	for _, n := range []*big.Int{plus(power(63), 0), plus(new(big.Int).Neg(power(63)), -1), power(64), plus(power(64), 5), new(big.Int).Neg(power(64)), power(99999)} {
		if m, ok := integer(t, n).Int64(); m != 0 || ok {
			t.Errorf("Int64 of %.40s: %d, %t", n, m, ok)
		}
	}
}

func TestParseIntRefusesOtherForms(t *testing.T) {
	for _, s := range []string{"", "-", "-0", "00", "01", "-01", "+1", "+0", "1 ", " 1", "1-", "--1", "1_000", "1,0", "0x1", "1e3", "1.0", "1/1", "a", "\x00", "1\n", "１", "99999999999999999999x", "x99999999999999999999"} {
		a, e := num.ParseInt(s)
		failInt(t, "ParseInt of "+s, a, e, api.ErrForm)
	}
}

func TestParseIntOrderOfErrors(t *testing.T) {
	nines := strings.Repeat("9", 35000)
	for _, x := range []struct {
		name, s string
		e       api.Errno
	}{
		{"35001 digits", nines + "9", api.ErrLong},
		{"35001 letters", strings.Repeat("x", 35001), api.ErrLong},
		{"35000 digits and a minus", "-" + nines, api.ErrLong},
		{"35000 digits", nines, api.ErrSize},
		{"34999 digits and a minus", "-" + nines[1:], api.ErrSize},
		{"35000 digits with a zero before them", "0" + nines[1:], api.ErrForm},
		{"35000 letters", strings.Repeat("x", 35000), api.ErrForm},
		{"34999 digits and a blank", nines[1:] + " ", api.ErrForm},
		{"2^MaxBits", power(api.MaxBits).String(), api.ErrSize},
		{"-2^MaxBits", "-" + power(api.MaxBits).String(), api.ErrSize},
		{"2^MaxBits + 1", plus(power(api.MaxBits), 1).String(), api.ErrSize},
	} {
		a, e := num.ParseInt(x.s)
		failInt(t, x.name, a, e, x.e)
	}
	greatest := plus(power(api.MaxBits), -1)
	for _, n := range []*big.Int{greatest, new(big.Int).Neg(greatest), power(api.MaxBits - 1)} {
		a, e := num.ParseInt(n.String())
		wantInt(t, "ParseInt at the limit", a, e, n)
	}
}

func TestStringGivesWhatParseIntReads(t *testing.T) {
	for k := range 60 { // chunks of digits begin and end near powers of ten
		ten := new(big.Int).Exp(big.NewInt(10), big.NewInt(int64(k)), nil)
		for _, n := range []*big.Int{ten, plus(ten, -1), plus(ten, 7), new(big.Int).Neg(ten)} {
			wantInt(t, "String", integer(t, n), api.OK, n)
		}
	}
	s := source{1}
	for range 500 {
		n := s.number(12)
		wantInt(t, "String", integer(t, n), api.OK, n)
	}
}

func TestSignAndCmp(t *testing.T) {
	l := []*big.Int{new(big.Int).Neg(power(130)), new(big.Int).Neg(power(129)), plus(new(big.Int).Neg(power(64)), -1), new(big.Int).Neg(power(64))}
	for _, n := range int64s {
		l = append(l, big.NewInt(n))
	}
	l = append(l, power(64), plus(power(64), 1), power(65), plus(power(128), -1), power(128), plus(power(128), 1), plus(power(128), 2))
	for i, m := range l {
		a := integer(t, m)
		if a.Sign() != m.Sign() {
			t.Errorf("Sign of %s: %d", a, a.Sign())
		}
		for j, n := range l {
			want := big.NewInt(int64(i - j)).Sign()
			if got := a.Cmp(integer(t, n)); got != want {
				t.Errorf("Cmp of %s and %s: %d instead of %d", m, n, got, want)
			}
		}
	}
}

func TestArithmetic(t *testing.T) {
	s := source{2}
	for range 3000 {
		m, n := s.number(9), s.number(9)
		if s.Below(10) == 0 {
			m.Neg(n)
		}
		a, b := integer(t, m), integer(t, n)
		sum, e := a.Add(b)
		wantInt(t, "Add", sum, e, new(big.Int).Add(m, n))
		difference, e := a.Sub(b)
		wantInt(t, "Sub", difference, e, new(big.Int).Sub(m, n))
		product, e := a.Mul(b)
		wantInt(t, "Mul", product, e, new(big.Int).Mul(m, n))
		wantInt(t, "Neg", a.Neg(), api.OK, new(big.Int).Neg(m))
		wantInt(t, "the argument afterwards", a, api.OK, m)
		wantInt(t, "the argument afterwards", b, api.OK, n)
	}
}

func TestSums64(t *testing.T) {
	for _, m := range int64s {
		for _, n := range int64s {
			x, y := big.NewInt(m), big.NewInt(n)
			sum, e := num.Whole(m).Add(num.Whole(n))
			wantInt(t, "Add", sum, e, new(big.Int).Add(x, y))
			difference, e := num.Whole(m).Sub(num.Whole(n))
			wantInt(t, "Sub", difference, e, new(big.Int).Sub(x, y))
			product, e := num.Whole(m).Mul(num.Whole(n))
			wantInt(t, "Mul", product, e, new(big.Int).Mul(x, y))
		}
	}
}

func TestIntegersAtTheLimit(t *testing.T) {
	limit := plus(power(api.MaxBits), -1)
	greatest, one, least := integer(t, limit), num.Whole(1), integer(t, new(big.Int).Neg(limit))
	a, e := greatest.Add(num.Int{})
	wantInt(t, "greatest + 0", a, e, limit)
	a, e = greatest.Sub(one)
	wantInt(t, "greatest - 1", a, e, plus(limit, -1))
	a, e = greatest.Mul(num.Whole(-1))
	wantInt(t, "greatest * -1", a, e, new(big.Int).Neg(limit))
	a, e = greatest.Add(least)
	wantInt(t, "greatest + least", a, e, new(big.Int))
	a, e = integer(t, power(50000)).Mul(integer(t, power(49999)))
	wantInt(t, "2^50000 * 2^49999", a, e, power(99999))

	a, e = greatest.Add(one)
	failInt(t, "greatest + 1", a, e, api.ErrSize)
	a, e = least.Sub(one)
	failInt(t, "least - 1", a, e, api.ErrSize)
	a, e = least.Add(num.Whole(-1))
	failInt(t, "least + -1", a, e, api.ErrSize)
	a, e = greatest.Sub(least)
	failInt(t, "greatest - least", a, e, api.ErrSize)
	a, e = integer(t, power(50000)).Mul(integer(t, power(50000)))
	failInt(t, "2^50000 squared", a, e, api.ErrSize)
	a, e = greatest.Mul(greatest)
	failInt(t, "greatest squared", a, e, api.ErrSize)
	a, e = greatest.Mul(num.Whole(-2))
	failInt(t, "greatest * -2", a, e, api.ErrSize)
}

func TestDiv(t *testing.T) {
	s := source{3}
	for range 5000 {
		m, n := s.number(9), s.number(6)
		if s.Below(3) == 0 { // a rest of 0
			m.Mul(m, n)
		}
		if n.Sign() == 0 {
			continue
		}
		checkDiv(t, m, n)
	}
	for _, m := range int64s {
		for _, n := range int64s {
			if n != 0 {
				checkDiv(t, big.NewInt(m), big.NewInt(n))
			}
		}
	}
	limit := plus(power(api.MaxBits), -1)
	for _, n := range []*big.Int{big.NewInt(1), big.NewInt(-1), big.NewInt(-2), power(50000), plus(power(50000), -1), limit, plus(limit, -1)} {
		checkDiv(t, limit, n)
		checkDiv(t, new(big.Int).Neg(limit), n)
		checkDiv(t, n, limit)
	}
}

// checkDiv compares with the division of math/big, whose rest is not negative either.
func checkDiv(t *testing.T, m, n *big.Int) {
	t.Helper()
	q, r, e := integer(t, m).Div(integer(t, n))
	quotient, rest := new(big.Int).DivMod(m, n, new(big.Int))
	wantInt(t, "quotient", q, e, quotient)
	wantInt(t, "rest", r, e, rest)
}

// TestDivWithDigitsThatAreHardToEstimate uses the cases in which the first estimate of a digit is one or two too large, or does not fit a word.
func TestDivWithDigitsThatAreHardToEstimate(t *testing.T) {
	words := func(l ...uint64) *big.Int {
		n := new(big.Int)
		for _, w := range l {
			n.Lsh(n, 64).Or(n, new(big.Int).SetUint64(w))
		}
		return n
	}
	const top, all = 1 << 63, 1<<64 - 1
	checkDiv(t, words(top, 0, 0), words(top, all))
	checkDiv(t, words(top-1, all, 0, 3), words(top, 0, 1))
	checkDiv(t, words(top-1, all, all, all-1, 0), words(top, 0, all))
	checkDiv(t, words(all, all, all-1, 5), words(all, all, all))
	checkDiv(t, words(top, 0, 0, 0), words(top, 1, 1))
	checkDiv(t, words(1, 0, 0, 0), words(1, all))
	checkDiv(t, words(3, 0, top), words(1, 0, 1<<61))
	values := []uint64{0, 1, 2, top - 1, top, top + 1, all - 1, all}
	for _, a := range values {
		for _, b := range values {
			for _, c := range values {
				for _, d := range values[1:] {
					checkDiv(t, words(a, b, c, d), words(d, b, c))
					checkDiv(t, words(a, b, c, a), words(d, a))
				}
			}
		}
	}
}

func TestDivByZero(t *testing.T) {
	for _, n := range int64s {
		q, r, e := num.Whole(n).Div(num.Int{})
		failInt(t, "quotient by 0", q, e, api.ErrZero)
		failInt(t, "rest by 0", r, e, api.ErrZero)
	}
}

func TestRoot(t *testing.T) {
	check := func(n *big.Int) {
		t.Helper()
		r, e := integer(t, n).Root()
		wantInt(t, "Root", r, e, new(big.Int).Sqrt(n))
	}
	for n := range int64(300) {
		check(big.NewInt(n))
	}
	s := source{4}
	for range 500 {
		n := s.number(8)
		n.Abs(n)
		check(n)
		square := new(big.Int).Mul(n, n)
		check(square)
		check(plus(square, 1))
		if n.Sign() > 0 {
			check(plus(square, -1))
		}
	}
	for k := range uint(300) {
		check(power(k))
		check(plus(power(k), -1))
	}
	check(power(api.MaxBits - 1))
	check(plus(power(api.MaxBits), -1))
	for _, n := range []int64{-1, -4, math.MinInt64} {
		r, e := num.Whole(n).Root()
		failInt(t, "Root of a negative number", r, e, api.ErrArg)
	}
}

func TestGcd(t *testing.T) {
	check := func(m, n *big.Int) {
		t.Helper()
		want := new(big.Int).GCD(nil, nil, new(big.Int).Abs(m), new(big.Int).Abs(n))
		wantInt(t, "Gcd", num.Gcd(integer(t, m), integer(t, n)), api.OK, want)
		wantInt(t, "Gcd", num.Gcd(integer(t, n), integer(t, m)), api.OK, want)
	}
	for _, m := range int64s {
		for _, n := range int64s {
			check(big.NewInt(m), big.NewInt(n))
		}
	}
	s := source{5}
	for range 3000 {
		m, n, common := s.number(10), s.number(10), s.number(4)
		check(m, n)
		check(m.Mul(m, common), n.Mul(n, common))
	}
	for range 1000 { // numbers whose highest words agree
		m := s.number(8)
		check(m, plus(m, int64(s.Below(1000))))
		check(m, new(big.Int).Add(m, s.number(3)))
	}
	// Neighbours among Fibonacci's numbers take the most steps.
	a, b := big.NewInt(0), big.NewInt(1)
	for a.BitLen() < 2000 {
		check(a, b)
		a, b = b, a.Add(a, b)
	}
	limit := plus(power(api.MaxBits), -1)
	check(limit, plus(limit, -1))
	check(limit, plus(power(60000), -1))
	check(limit, new(big.Int))
}
