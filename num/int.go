package num

import (
	"math"

	"stadda/api"
)

// maxInteger is the greatest length of a string that ParseInt reads.
const maxInteger = 35000

// Int is an integer of less than 2^api.MaxBits in absolute value. The zero value is 0.
type Int struct {
	negative bool // false for 0
	absolute digits
}

// signed is the integer with this sign and absolute value; without an absolute value the sign counts for nothing.
func signed(negative bool, absolute digits) Int {
	return Int{negative: negative && len(absolute) > 0, absolute: absolute}
}

// smallInt is a, if a is small; otherwise it leaves the calculation.
func smallInt(a Int) Int {
	mustBeSmall(a.absolute)
	return a
}

// Whole is n.
func Whole(n int64) Int {
	absolute := uint64(n)
	if n < 0 {
		absolute = -absolute // right for the least int64, too
	}
	return signed(n < 0, word(absolute))
}

// ParseInt reads the canonical form of an integer.
func ParseInt(s string) (Int, api.Errno) {
	if len(s) > maxInteger {
		return Int{}, api.ErrLong
	}
	if !isInteger(s) {
		return Int{}, api.ErrForm
	}
	return attempt(func() Int { return smallInt(readInt(s)) })
}

// readInt is the integer of which s is the canonical form, small or not.
func readInt(s string) Int {
	if s[0] == '-' {
		return signed(true, readDigits(s[1:]))
	}
	return signed(false, readDigits(s))
}

// String is the canonical form.
func (a Int) String() string {
	if a.negative {
		return "-" + a.absolute.text()
	}
	return a.absolute.text()
}

// Int64 is the number and true if it is an int64.
func (a Int) Int64() (int64, bool) {
	low := a.absolute.at(0)
	switch {
	case len(a.absolute) > 1:
		return 0, false
	case a.negative && low <= -math.MinInt64:
		return int64(-low), true
	case !a.negative && low <= math.MaxInt64:
		return int64(low), true
	}
	return 0, false
}

// Sign is -1, 0 or 1.
func (a Int) Sign() int {
	switch {
	case a.negative:
		return -1
	case len(a.absolute) > 0:
		return 1
	}
	return 0
}

// Cmp is the sign of a - b.
func (a Int) Cmp(b Int) int {
	switch {
	case a.negative && b.negative:
		return b.absolute.compare(a.absolute)
	case a.negative:
		return -1
	case b.negative:
		return 1
	}
	return a.absolute.compare(b.absolute)
}

// Neg is -a.
func (a Int) Neg() Int {
	return signed(!a.negative, a.absolute.copied())
}

// Add is a + b.
func (a Int) Add(b Int) (Int, api.Errno) {
	return attempt(func() Int { return smallInt(a.plus(b)) })
}

// Sub is a - b.
func (a Int) Sub(b Int) (Int, api.Errno) {
	return attempt(func() Int { return smallInt(a.plus(b.Neg())) })
}

// Mul is a b.
func (a Int) Mul(b Int) (Int, api.Errno) {
	return attempt(func() Int { return smallInt(a.times(b)) })
}

// plus is a + b, small or not.
func (a Int) plus(b Int) Int {
	if a.negative == b.negative {
		return signed(a.negative, a.absolute.plus(b.absolute))
	}
	if a.absolute.compare(b.absolute) < 0 {
		a, b = b, a
	}
	return signed(a.negative, a.absolute.minus(b.absolute))
}

// times is a b, small or not.
func (a Int) times(b Int) Int {
	return signed(a.negative != b.negative, a.absolute.times(b.absolute))
}

// Div is the quotient of a by b, and the rest, from 0 to |b| - 1.
func (a Int) Div(b Int) (Int, Int, api.Errno) {
	if b.Sign() == 0 {
		return Int{}, Int{}, api.ErrZero
	}
	quotient, rest := divide(a.absolute, b.absolute)
	if a.negative && len(rest) > 0 {
		quotient = quotient.plus(word(1))
		rest = b.absolute.minus(rest)
	}
	return signed(a.negative != b.negative, quotient), signed(false, rest), api.OK
}

// Root is the greatest integer whose square is at most a.
func (a Int) Root() (Int, api.Errno) {
	if a.negative {
		return Int{}, api.ErrArg
	}
	return signed(false, root(a.absolute)), api.OK
}

// Gcd is the greatest integer that divides both, 0 if both are 0.
func Gcd(a, b Int) Int {
	return signed(false, gcd(a.absolute, b.absolute))
}
