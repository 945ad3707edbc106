package num

import (
	"stadda/api"
	"stadda/exact"
)

// maxFraction is the greatest length of a string that Parse reads.
const maxFraction = 70000

// Rat is a fraction in lowest terms, with a small numerator and denominator. The zero value is 0.
type Rat struct {
	value exact.Rat
}

// Of is n as a fraction.
func Of(n int64) Rat {
	return Rat{exact.Of(n)}
}

// From is a as a fraction.
func From(a Int) Rat {
	return Rat{exact.From(a.value)}
}

// Make is a divided by b.
func Make(a, b int64) (Rat, api.Errno) {
	return Of(a).Quo(Of(b))
}

// Parse reads the canonical form of a fraction.
func Parse(s string) (Rat, api.Errno) {
	if len(s) > maxFraction {
		return Rat{}, api.ErrLong
	}
	value, ok := exact.ParseRat(s)
	if !ok {
		return Rat{}, api.ErrForm
	}
	return attempt(func() Rat { return smallRat(value) })
}

// String is the canonical form.
func (r Rat) String() string {
	return r.value.String()
}

// Num is the numerator.
func (r Rat) Num() Int {
	return Int{r.value.Num()}
}

// Den is the denominator.
func (r Rat) Den() Int {
	return Int{r.value.Den()}
}

// Sign is -1, 0 or 1.
func (r Rat) Sign() int {
	return r.value.Sign()
}

// Cmp is the sign of r - s.
func (r Rat) Cmp(s Rat) int {
	return r.value.Cmp(s.value)
}

// Neg is -r.
func (r Rat) Neg() Rat {
	return Rat{r.value.Neg()}
}

// Add is r + s.
func (r Rat) Add(s Rat) (Rat, api.Errno) {
	return attempt(func() Rat { return smallRat(r.value.Plus(s.value)) })
}

// Sub is r - s.
func (r Rat) Sub(s Rat) (Rat, api.Errno) {
	return attempt(func() Rat { return smallRat(r.value.Minus(s.value)) })
}

// Mul is r s.
func (r Rat) Mul(s Rat) (Rat, api.Errno) {
	return attempt(func() Rat { return smallRat(r.value.Times(s.value)) })
}

// Quo is r divided by s.
func (r Rat) Quo(s Rat) (Rat, api.Errno) {
	if s.Sign() == 0 {
		return Rat{}, api.ErrZero
	}
	return attempt(func() Rat { return smallRat(r.value.Over(s.value)) })
}

// Floor is the greatest integer that is at most r.
func (r Rat) Floor() Int {
	return Int{r.value.Floor()}
}
