package num

import (
	"strings"

	"stadda/api"
)

// maxFraction is the greatest length of a string that Parse reads.
const maxFraction = 70000

// Rat is a fraction in lowest terms, with a small numerator and denominator. The zero value is 0.
type Rat struct {
	numerator   Int
	denominator digits // nil for 1, so that each fraction has one form and the zero value is 0
}

// lowest is the fraction of a numerator and a denominator without a common divisor.
func lowest(numerator Int, denominator digits) Rat {
	if denominator.isOne() {
		denominator = nil
	}
	return Rat{numerator: numerator, denominator: denominator}
}

// smallRat is r, if r is small; otherwise it leaves the calculation.
func smallRat(r Rat) Rat {
	mustBeSmall(r.numerator.absolute)
	mustBeSmall(r.denominator)
	return r
}

// below is the denominator, written out.
func (r Rat) below() digits {
	if r.isWhole() {
		return word(1)
	}
	return r.denominator
}

func (r Rat) isWhole() bool {
	return len(r.denominator) == 0
}

// Of is n as a fraction.
func Of(n int64) Rat {
	return Rat{numerator: Whole(n)}
}

// From is a as a fraction.
func From(a Int) Rat {
	return Rat{numerator: signed(a.negative, a.absolute.copied())}
}

// Make is a divided by b.
func Make(a, b int64) (Rat, api.Errno) {
	return Of(a).Quo(Of(b))
}

// Parse reads the canonical form of a fraction.
func Parse(s string) (Rat, api.Errno) {
	if len(s) > maxFraction {
		return Rat{}, api.ErrLong
	}
	over, under, divided := strings.Cut(s, "/")
	if !isInteger(over) {
		return Rat{}, api.ErrForm
	}
	numerator, denominator := readInt(over), word(1)
	if divided {
		if !isNatural(under) || under == "0" || under == "1" {
			return Rat{}, api.ErrForm
		}
		denominator = readDigits(under)
		if !gcd(numerator.absolute, denominator).isOne() {
			return Rat{}, api.ErrForm
		}
	}
	return attempt(func() Rat { return smallRat(lowest(numerator, denominator)) })
}

// String is the canonical form.
func (r Rat) String() string {
	if r.isWhole() {
		return r.numerator.String()
	}
	return r.numerator.String() + "/" + r.denominator.text()
}

// Num is the numerator.
func (r Rat) Num() Int {
	return signed(r.numerator.negative, r.numerator.absolute.copied())
}

// Den is the denominator.
func (r Rat) Den() Int {
	return signed(false, r.below().copied())
}

// Sign is -1, 0 or 1.
func (r Rat) Sign() int {
	return r.numerator.Sign()
}

// Cmp is the sign of r - s.
func (r Rat) Cmp(s Rat) int {
	if r.isWhole() && s.isWhole() {
		return r.numerator.Cmp(s.numerator)
	}
	return r.numerator.times(signed(false, s.below())).Cmp(s.numerator.times(signed(false, r.below())))
}

// Neg is -r.
func (r Rat) Neg() Rat {
	return Rat{numerator: r.numerator.Neg(), denominator: r.denominator.copied()}
}

// Add is r + s.
func (r Rat) Add(s Rat) (Rat, api.Errno) {
	return attempt(func() Rat { return smallRat(r.plus(s)) })
}

// Sub is r - s.
func (r Rat) Sub(s Rat) (Rat, api.Errno) {
	return attempt(func() Rat { return smallRat(r.plus(s.Neg())) })
}

// Mul is r s.
func (r Rat) Mul(s Rat) (Rat, api.Errno) {
	return attempt(func() Rat { return smallRat(r.times(s)) })
}

// Quo is r divided by s.
func (r Rat) Quo(s Rat) (Rat, api.Errno) {
	if s.Sign() == 0 {
		return Rat{}, api.ErrZero
	}
	return attempt(func() Rat { return smallRat(r.times(s.turned())) })
}

// plus is r + s, small or not. What the sum has in common with its denominator divides what the denominators have in common, so that the numbers that are looked at stay short.
func (r Rat) plus(s Rat) Rat {
	if r.isWhole() && s.isWhole() {
		return Rat{numerator: r.numerator.plus(s.numerator)}
	}
	common := gcd(r.below(), s.below())
	ownR, ownS := exactly(r.below(), common), exactly(s.below(), common)
	sum := r.numerator.times(signed(false, ownS)).plus(s.numerator.times(signed(false, ownR)))
	shared := gcd(sum.absolute, common)
	numerator := signed(sum.negative, exactly(sum.absolute, shared))
	return lowest(numerator, ownR.times(exactly(s.below(), shared)))
}

// times is r s, small or not.
func (r Rat) times(s Rat) Rat {
	if r.isWhole() && s.isWhole() {
		return Rat{numerator: r.numerator.times(s.numerator)}
	}
	overR, underS := shorten(r.numerator.absolute, s.below())
	overS, underR := shorten(s.numerator.absolute, r.below())
	negative := r.numerator.negative != s.numerator.negative
	return lowest(signed(negative, overR.times(overS)), underR.times(underS))
}

// shorten is a and b, of which b is not 0, divided by their greatest common divisor.
func shorten(a, b digits) (digits, digits) {
	common := gcd(a, b)
	return exactly(a, common), exactly(b, common)
}

// turned is 1 divided by r, which is not 0.
func (r Rat) turned() Rat {
	return lowest(signed(r.numerator.negative, r.below()), r.numerator.absolute)
}

// Floor is the greatest integer that is at most r.
func (r Rat) Floor() Int {
	floor, _, _ := r.numerator.Div(signed(false, r.below()))
	return floor
}
