package exact

import "testing"

// Rule R4: results share no memory with arguments. Numbers do not change, so that this does not show outside the package.

func shared(a, b digits) bool {
	for i := range a {
		for j := range b {
			if &a[i] == &b[j] {
				return true
			}
		}
	}
	return false
}

func integer(t *testing.T, s string) Int {
	t.Helper()
	a, ok := ParseInt(s)
	if !ok {
		t.Fatalf("ParseInt of %q", s)
	}
	return a
}

func TestIntegersShareNoMemory(t *testing.T) {
	a := integer(t, "-123456789012345678901234567890")
	b := Whole(7)
	var zero Int
	quotient, _ := a.Div(Whole(1))
	_, rest := b.Div(a)
	for i, c := range []Int{a.Neg(), a.Plus(zero), zero.Plus(a), a.Minus(zero), zero.Minus(a), a.Times(Whole(1)), quotient, rest, Gcd(a, zero), Gcd(zero, b), Gcd(a, a), From(a).Num()} {
		if shared(c.absolute, a.absolute) || shared(c.absolute, b.absolute) {
			t.Errorf("result %d shares memory with an argument", i)
		}
	}
}

func TestFractionsShareNoMemory(t *testing.T) {
	r, _ := ParseRat("-123456789012345678901234567890/123456789012345678901234567891")
	var zero Rat
	whole := Of(5)
	for i, s := range []Rat{r.Neg(), r.Plus(zero), zero.Plus(r), r.Minus(zero), zero.Minus(r), r.Times(Of(1)), r.Over(Of(1)), Of(1).Over(r), From(r.Num()), From(r.Den()), From(r.Floor()), whole.Plus(zero), whole.Minus(zero), zero.Minus(whole), From(whole.Floor()), whole.Neg()} {
		for _, d := range []digits{s.numerator.absolute, s.denominator} {
			if shared(d, r.numerator.absolute) || shared(d, r.denominator) || shared(d, whole.numerator.absolute) {
				t.Errorf("result %d shares memory with an argument", i)
			}
		}
	}
	if shared(r.Num().absolute, r.numerator.absolute) || shared(r.Den().absolute, r.denominator) {
		t.Error("a numerator or a denominator shares memory with its fraction")
	}
	n := Whole(5)
	if shared(From(n).numerator.absolute, n.absolute) {
		t.Error("From shares memory with its argument")
	}
}

func TestNumbersHaveNoSpareRoom(t *testing.T) {
	a := integer(t, "-123456789012345678901234567890")
	square := a.Times(a)
	quotient, rest := square.Div(Whole(1 << 62))
	for i, b := range []Int{a, a.Neg(), Whole(3), square, a.Plus(a), quotient, rest, square.Root(), Gcd(a, square)} {
		if cap(b.absolute) != len(b.absolute) {
			t.Errorf("number %d has room for %d words and uses %d", i, cap(b.absolute), len(b.absolute))
		}
	}
}
