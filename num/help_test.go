package num_test

import (
	"math/big"
	"testing"

	"stadda/api"
	"stadda/chance"
	"stadda/num"
)

// source is a row of numbers that are the same in each run.
type source struct {
	chance.Source
}

// number is an integer of at most that many words, often with runs of zeros and ones, at which carries and estimated digits go wrong.
func (s *source) number(words int) *big.Int {
	n := new(big.Int)
	for range s.Below(words + 1) {
		w := s.Next()
		switch s.Below(5) {
		case 0:
			w = 0
		case 1:
			w = 1<<64 - 1
		case 2:
			w = 1 << 63
		}
		n.Lsh(n, 64).Or(n, new(big.Int).SetUint64(w))
	}
	n.Rsh(n, uint(s.Below(64)))
	if s.Below(2) == 0 {
		n.Neg(n)
	}
	return n
}

// power is 2^n.
func power(n uint) *big.Int {
	return new(big.Int).Lsh(big.NewInt(1), n)
}

// plus is n + k.
func plus(n *big.Int, k int64) *big.Int {
	return new(big.Int).Add(n, big.NewInt(k))
}

func integer(t *testing.T, n *big.Int) num.Int {
	t.Helper()
	a, e := num.ParseInt(n.String())
	if e != api.OK {
		t.Fatalf("ParseInt of a number of %d bits: %d", n.BitLen(), e)
	}
	return a
}

func fraction(t *testing.T, s string) num.Rat {
	t.Helper()
	r, e := num.Parse(s)
	if e != api.OK {
		t.Fatalf("Parse of %.40q: %d", s, e)
	}
	return r
}

// ratio is n / d in canonical form, as math/big writes it, but without a denominator of 1.
func ratio(n, d *big.Int) string {
	return new(big.Rat).SetFrac(n, d).RatString()
}

// wantInt checks the result of a call that succeeds.
func wantInt(t *testing.T, what string, got num.Int, e api.Errno, want *big.Int) {
	t.Helper()
	if e != api.OK || got.String() != want.String() {
		t.Errorf("%s: %.60s, %d instead of %.60s", what, got, e, want)
	}
}

// wantRat checks the result of a call that succeeds.
func wantRat(t *testing.T, what string, got num.Rat, e api.Errno, want string) {
	t.Helper()
	if e != api.OK || got.String() != want {
		t.Errorf("%s: %.60s, %d instead of %.60s", what, got, e, want)
	}
}

// failInt checks the result of a call that fails.
func failInt(t *testing.T, what string, got num.Int, e, want api.Errno) {
	t.Helper()
	if e != want || got.String() != "0" {
		t.Errorf("%s: %.60s, %d instead of 0, %d", what, got, e, want)
	}
}

// failRat checks the result of a call that fails.
func failRat(t *testing.T, what string, got num.Rat, e, want api.Errno) {
	t.Helper()
	if e != want || got.String() != "0" {
		t.Errorf("%s: %.60s, %d instead of 0, %d", what, got, e, want)
	}
}
