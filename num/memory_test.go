package num

import "testing"

// Rule R4: results share no memory with arguments. Numbers do not change, so that this does not show outside the package.

func shared(a, b digits) bool {
	for i := range a {
		for j := range b {
			if &a[i] == &b[j] {
				return true
			}
		}
	}
	return false
}

func TestIntegersShareNoMemory(t *testing.T) {
	a, _ := ParseInt("-123456789012345678901234567890")
	b := Whole(7)
	var zero Int
	sum, _ := a.Add(zero)
	difference, _ := a.Sub(zero)
	product, _ := a.Mul(Whole(1))
	quotient, _, _ := a.Div(Whole(1))
	_, rest, _ := b.Div(a)
	for i, c := range []Int{a.Neg(), sum, difference, product, quotient, rest, Gcd(a, zero), Gcd(zero, b), Gcd(a, a), From(a).Num()} {
		if shared(c.absolute, a.absolute) || shared(c.absolute, b.absolute) {
			t.Errorf("result %d shares memory with an argument", i)
		}
	}
}

func TestFractionsShareNoMemory(t *testing.T) {
	r, _ := Parse("-123456789012345678901234567890/123456789012345678901234567891")
	var zero Rat
	whole := Of(5)
	sum, _ := r.Add(zero)
	difference, _ := r.Sub(zero)
	product, _ := r.Mul(Of(1))
	quotient, _ := r.Quo(Of(1))
	turned, _ := Of(1).Quo(r)
	same, _ := whole.Add(zero)
	for i, s := range []Rat{r.Neg(), sum, difference, product, quotient, turned, From(r.Num()), From(r.Den()), From(r.Floor()), same, From(whole.Floor()), whole.Neg()} {
		for _, d := range []digits{s.numerator.absolute, s.denominator} {
			if shared(d, r.numerator.absolute) || shared(d, r.denominator) || shared(d, whole.numerator.absolute) {
				t.Errorf("result %d shares memory with an argument", i)
			}
		}
	}
	if shared(r.Num().absolute, r.numerator.absolute) || shared(r.Den().absolute, r.denominator) {
		t.Error("a numerator or a denominator shares memory with its fraction")
	}
	n := Whole(5)
	if shared(From(n).numerator.absolute, n.absolute) {
		t.Error("From shares memory with its argument")
	}
}

func TestNumbersHaveNoSpareRoom(t *testing.T) {
	a, _ := ParseInt("-123456789012345678901234567890")
	square, _ := a.Mul(a)
	sum, _ := a.Add(a)
	quotient, rest, _ := square.Div(Whole(1 << 62))
	root, _ := square.Root()
	for i, b := range []Int{a, a.Neg(), Whole(3), square, sum, quotient, rest, root, Gcd(a, square)} {
		if cap(b.absolute) != len(b.absolute) {
			t.Errorf("number %d has room for %d words and uses %d", i, cap(b.absolute), len(b.absolute))
		}
	}
}
