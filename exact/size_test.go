package exact

import (
	"math/big"
	"testing"
)

// Package num's tests check the calculations with small numbers; these check that there is no limit to the size.

func TestNumbersOfAnySize(t *testing.T) {
	large := new(big.Int).Lsh(big.NewInt(1), 300_001)
	large.Sub(large, big.NewInt(1))
	other := new(big.Int).Exp(big.NewInt(3), big.NewInt(100_000), nil)
	a, b := integer(t, large.String()), integer(t, other.String())
	if a.BitLength() != 300_001 || b.BitLength() != other.BitLen() {
		t.Errorf("bit lengths %d and %d", a.BitLength(), b.BitLength())
	}
	want := new(big.Int).Mul(large, other)
	if a.Times(b).String() != want.String() {
		t.Error("product")
	}
	quotient, rest := a.Times(b).Plus(Whole(5)).Div(b)
	if quotient.Cmp(a) != 0 || rest.Cmp(Whole(5)) != 0 {
		t.Error("quotient")
	}
	if Gcd(a.Times(b), b.Times(Whole(7))).Cmp(b) != 0 {
		t.Error("common divisor")
	}
	ratio := new(big.Rat).SetFrac(large, other)
	r := From(a).Over(From(b))
	if r.String() != ratio.String() {
		t.Error("fraction")
	}
	if s := r.Plus(Of(1)).Minus(r); s.String() != "1" {
		t.Error("difference")
	}
}

func TestBitLengthsOfFractions(t *testing.T) {
	for s, want := range map[string][2]int{"0": {0, 1}, "1": {1, 1}, "-7": {3, 1}, "8": {4, 1}, "1/7": {1, 3}, "-1/8": {1, 4}, "9/2": {4, 2}} {
		r, ok := ParseRat(s)
		if over, under := r.BitLengths(); !ok || over != want[0] || under != want[1] {
			t.Errorf("%s: %d and %d bits", s, over, under)
		}
	}
}
