package num_test

import (
	"testing"

	"stadda/api"
	"stadda/num"
)

// P1.5: the laws of an ordered ring and of an ordered field.

func sumOf(t *testing.T, a, b num.Int) num.Int {
	t.Helper()
	c, e := a.Add(b)
	if e != api.OK {
		t.Fatalf("Add: %d", e)
	}
	return c
}

func productOf(t *testing.T, a, b num.Int) num.Int {
	t.Helper()
	c, e := a.Mul(b)
	if e != api.OK {
		t.Fatalf("Mul: %d", e)
	}
	return c
}

func TestIntegersAreAnOrderedRing(t *testing.T) {
	same := func(law string, a, b num.Int) {
		t.Helper()
		if a.Cmp(b) != 0 || a.String() != b.String() {
			t.Errorf("%s: %s and %s", law, a, b)
		}
	}
	s := source{11}
	for range 1000 {
		a, b, c := integer(t, s.number(5)), integer(t, s.number(5)), integer(t, s.number(5))
		same("sums commute", sumOf(t, a, b), sumOf(t, b, a))
		same("sums associate", sumOf(t, sumOf(t, a, b), c), sumOf(t, a, sumOf(t, b, c)))
		same("0 changes no sum", sumOf(t, a, num.Int{}), a)
		same("negatives", sumOf(t, a, a.Neg()), num.Int{})
		same("products commute", productOf(t, a, b), productOf(t, b, a))
		same("products associate", productOf(t, productOf(t, a, b), c), productOf(t, a, productOf(t, b, c)))
		same("1 changes no product", productOf(t, a, num.Whole(1)), a)
		same("products distribute", productOf(t, a, sumOf(t, b, c)), sumOf(t, productOf(t, a, b), productOf(t, a, c)))
		if a.Cmp(b) != -b.Cmp(a) || a.Cmp(b) != sumOf(t, a, c).Cmp(sumOf(t, b, c)) {
			t.Errorf("order and sums: %s, %s, %s", a, b, c)
		}
		if productOf(t, a, b).Sign() != a.Sign()*b.Sign() || a.Cmp(b)*c.Sign() != productOf(t, a, c).Cmp(productOf(t, b, c)) {
			t.Errorf("order and products: %s, %s, %s", a, b, c)
		}
		if a.Cmp(b) >= 0 && b.Cmp(c) >= 0 && a.Cmp(c) < 0 {
			t.Errorf("order: %s, %s, %s", a, b, c)
		}
	}
}

func TestFractionsAreAnOrderedField(t *testing.T) {
	same := func(law string, a, b num.Rat) {
		t.Helper()
		if a.Cmp(b) != 0 || a.String() != b.String() {
			t.Errorf("%s: %s and %s", law, a, b)
		}
	}
	checked := func(a num.Rat, e api.Errno) num.Rat {
		t.Helper()
		if e != api.OK {
			t.Fatalf("error %d", e)
		}
		return a
	}
	add := func(a, b num.Rat) num.Rat { return checked(a.Add(b)) }
	mul := func(a, b num.Rat) num.Rat { return checked(a.Mul(b)) }
	s := source{12}
	for range 1000 {
		a, b, c := fraction(t, someRatio(&s).RatString()), fraction(t, someRatio(&s).RatString()), fraction(t, someRatio(&s).RatString())
		same("sums commute", add(a, b), add(b, a))
		same("sums associate", add(add(a, b), c), add(a, add(b, c)))
		same("0 changes no sum", add(a, num.Rat{}), a)
		same("negatives", add(a, a.Neg()), num.Rat{})
		same("differences", checked(a.Sub(b)), add(a, b.Neg()))
		same("products commute", mul(a, b), mul(b, a))
		same("products associate", mul(mul(a, b), c), mul(a, mul(b, c)))
		same("1 changes no product", mul(a, num.Of(1)), a)
		same("products distribute", mul(a, add(b, c)), add(mul(a, b), mul(a, c)))
		if b.Sign() != 0 {
			same("inverses", mul(b, checked(num.Of(1).Quo(b))), num.Of(1))
			same("quotients", mul(checked(a.Quo(b)), b), a)
		}
		if a.Cmp(b) != -b.Cmp(a) || a.Cmp(b) != add(a, c).Cmp(add(b, c)) || a.Cmp(b) != checked(a.Sub(b)).Sign() {
			t.Errorf("order and sums: %s, %s, %s", a, b, c)
		}
		if mul(a, b).Sign() != a.Sign()*b.Sign() || a.Cmp(b)*c.Sign() != mul(a, c).Cmp(mul(b, c)) {
			t.Errorf("order and products: %s, %s, %s", a, b, c)
		}
		floor := num.From(a.Floor())
		if floor.Cmp(a) > 0 || add(floor, num.Of(1)).Cmp(a) <= 0 {
			t.Errorf("floor of %s: %s", a, floor)
		}
	}
}

// P1.6: Fermat, Euler, Gauss.

func symbolOf(t *testing.T, a, n int64) int {
	t.Helper()
	s, e := num.Symbol(a, n)
	if e != api.OK {
		t.Fatalf("Symbol of %d and %d: %d", a, n, e)
	}
	return s
}

func TestEulersCriterion(t *testing.T) {
	for _, p := range []int64{3, 5, 7, 11, 13, 17, 97, 1_000_003, 999_999_937, 999_999_999_961, 999_999_999_989} {
		for _, a := range manyInt64s(100) {
			if a%p == 0 {
				continue
			}
			half, e := num.Power(a, (p-1)/2, p)
			want := int64(symbolOf(t, a, p))
			if want < 0 {
				want += p
			}
			if half != want || e != api.OK {
				t.Errorf("%d by %d: power %d, %d, symbol %d", a, p, half, e, want)
			}
			if whole, e := num.Power(a, p-1, p); whole != 1 || e != api.OK {
				t.Errorf("%d to the power %d by it and 1: %d, %d", a, p-1, whole, e)
			}
		}
	}
}

func TestSymbolIsAProduct(t *testing.T) {
	s := source{13}
	for range 5000 {
		a, b := int64(int32(s.Next())), int64(int32(s.Next()))
		m, n := int64(s.Below(500_000))*2+1, int64(s.Below(500_000))*2+1
		if symbolOf(t, a*b, n) != symbolOf(t, a, n)*symbolOf(t, b, n) {
			t.Errorf("symbol of %d * %d and %d", a, b, n)
		}
		if symbolOf(t, a, m*n) != symbolOf(t, a, m)*symbolOf(t, a, n) {
			t.Errorf("symbol of %d and %d * %d", a, m, n)
		}
	}
}

func TestReciprocity(t *testing.T) {
	s := source{14}
	for i := range int64(5000) {
		m, n := i%71*2+1, i/71*2+1
		if i%2 == 0 {
			m, n = int64(s.Next()%greatestModulus)|1, int64(s.Next()%greatestModulus)|1
		}
		g, _ := num.Gcd(num.Whole(m), num.Whole(n)).Int64()
		want := 1
		switch {
		case g > 1:
			want = 0
		case m%4 == 3 && n%4 == 3:
			want = -1
		}
		if got := symbolOf(t, m, n) * symbolOf(t, n, m); got != want {
			t.Errorf("symbols of %d and %d: %d instead of %d", m, n, got, want)
		}
	}
}
