package num

import (
	"stadda/api"
	"stadda/exact"
)

// maxInteger is the greatest length of a string that ParseInt reads.
const maxInteger = 35000

// Int is an integer of less than 2^api.MaxBits in absolute value. The zero value is 0.
type Int struct {
	value exact.Int
}

// Whole is n.
func Whole(n int64) Int {
	return Int{exact.Whole(n)}
}

// ParseInt reads the canonical form of an integer.
func ParseInt(s string) (Int, api.Errno) {
	if len(s) > maxInteger {
		return Int{}, api.ErrLong
	}
	value, ok := exact.ParseInt(s)
	if !ok {
		return Int{}, api.ErrForm
	}
	return attempt(func() Int { return smallInt(value) })
}

// String is the canonical form.
func (a Int) String() string {
	return a.value.String()
}

// Int64 is the number and true if it is an int64.
func (a Int) Int64() (int64, bool) {
	return a.value.Int64()
}

// Sign is -1, 0 or 1.
func (a Int) Sign() int {
	return a.value.Sign()
}

// Cmp is the sign of a - b.
func (a Int) Cmp(b Int) int {
	return a.value.Cmp(b.value)
}

// Neg is -a.
func (a Int) Neg() Int {
	return Int{a.value.Neg()}
}

// Add is a + b.
func (a Int) Add(b Int) (Int, api.Errno) {
	return attempt(func() Int { return smallInt(a.value.Plus(b.value)) })
}

// Sub is a - b.
func (a Int) Sub(b Int) (Int, api.Errno) {
	return attempt(func() Int { return smallInt(a.value.Minus(b.value)) })
}

// Mul is a b.
func (a Int) Mul(b Int) (Int, api.Errno) {
	return attempt(func() Int { return smallInt(a.value.Times(b.value)) })
}

// Div is the quotient of a by b, and the rest, from 0 to |b| - 1.
func (a Int) Div(b Int) (Int, Int, api.Errno) {
	if b.Sign() == 0 {
		return Int{}, Int{}, api.ErrZero
	}
	quotient, rest := a.value.Div(b.value)
	return Int{quotient}, Int{rest}, api.OK
}

// Root is the greatest integer whose square is at most a.
func (a Int) Root() (Int, api.Errno) {
	if a.Sign() < 0 {
		return Int{}, api.ErrArg
	}
	return Int{a.value.Root()}, api.OK
}

// Gcd is the greatest integer that divides both, 0 if both are 0.
func Gcd(a, b Int) Int {
	return Int{exact.Gcd(a.value, b.value)}
}
