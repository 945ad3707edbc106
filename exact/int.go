package exact

import "math"

// Int is an integer of any size. The zero value is 0.
type Int struct {
	negative bool // false for 0
	absolute digits
}

// signed is the integer with this sign and absolute value; without an absolute value the sign counts for nothing.
func signed(negative bool, absolute digits) Int {
	return Int{negative: negative && len(absolute) > 0, absolute: absolute}
}

// Whole is n.
func Whole(n int64) Int {
	absolute := uint64(n)
	if n < 0 {
		absolute = -absolute // right for the least int64, too
	}
	return signed(n < 0, word(absolute))
}

// ParseInt reads the canonical form of an integer; it is false if s is none.
func ParseInt(s string) (Int, bool) {
	if !isInteger(s) {
		return Int{}, false
	}
	if s[0] == '-' {
		return signed(true, readDigits(s[1:])), true
	}
	return signed(false, readDigits(s)), true
}

// String is the canonical form.
func (a Int) String() string {
	if a.negative {
		return "-" + a.absolute.text()
	}
	return a.absolute.text()
}

// Int64 is the number and true if it is an int64.
func (a Int) Int64() (int64, bool) {
	low := a.absolute.at(0)
	switch {
	case len(a.absolute) > 1:
		return 0, false
	case a.negative && low <= -math.MinInt64:
		return int64(-low), true
	case !a.negative && low <= math.MaxInt64:
		return int64(low), true
	}
	return 0, false
}

// BitLength is the least n for which the absolute value is less than 2^n.
func (a Int) BitLength() int {
	return a.absolute.bitLength()
}

// Sign is -1, 0 or 1.
func (a Int) Sign() int {
	switch {
	case a.negative:
		return -1
	case len(a.absolute) > 0:
		return 1
	}
	return 0
}

// Cmp is the sign of a - b.
func (a Int) Cmp(b Int) int {
	switch {
	case a.negative && b.negative:
		return b.absolute.compare(a.absolute)
	case a.negative:
		return -1
	case b.negative:
		return 1
	}
	return a.absolute.compare(b.absolute)
}

// Neg is -a.
func (a Int) Neg() Int {
	return signed(!a.negative, a.absolute.copied())
}

// Plus is a + b.
func (a Int) Plus(b Int) Int {
	if a.negative == b.negative {
		return signed(a.negative, a.absolute.plus(b.absolute))
	}
	if a.absolute.compare(b.absolute) < 0 {
		a, b = b, a
	}
	return signed(a.negative, a.absolute.minus(b.absolute))
}

// Minus is a - b.
func (a Int) Minus(b Int) Int {
	return a.Plus(signed(!b.negative, b.absolute))
}

// Times is a b.
func (a Int) Times(b Int) Int {
	return signed(a.negative != b.negative, a.absolute.times(b.absolute))
}

// Div is the quotient of a by b, which is not 0, and the rest, from 0 to |b| - 1.
func (a Int) Div(b Int) (Int, Int) {
	quotient, rest := divide(a.absolute, b.absolute)
	if a.negative && len(rest) > 0 {
		quotient = quotient.plus(word(1))
		rest = b.absolute.minus(rest)
	}
	return signed(a.negative != b.negative, quotient), signed(false, rest)
}

// Root is the greatest integer whose square is at most a, which is not negative.
func (a Int) Root() Int {
	return signed(false, root(a.absolute))
}

// Gcd is the greatest integer that divides both, 0 if both are 0.
func Gcd(a, b Int) Int {
	return signed(false, gcd(a.absolute, b.absolute))
}
