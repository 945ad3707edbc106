package exact

import "strings"

// Rat is a fraction of any size, in lowest terms. The zero value is 0.
type Rat struct {
	numerator   Int
	denominator digits // nil for 1, so that each fraction has one form and the zero value is 0
}

// lowest is the fraction of a numerator and a denominator without a common divisor.
func lowest(numerator Int, denominator digits) Rat {
	if denominator.isOne() {
		denominator = nil
	}
	return Rat{numerator: numerator, denominator: denominator}
}

// below is the denominator, written out.
func (r Rat) below() digits {
	if r.isWhole() {
		return word(1)
	}
	return r.denominator
}

func (r Rat) isWhole() bool {
	return len(r.denominator) == 0
}

// Of is n as a fraction.
func Of(n int64) Rat {
	return Rat{numerator: Whole(n)}
}

// From is a as a fraction.
func From(a Int) Rat {
	return Rat{numerator: signed(a.negative, a.absolute.copied())}
}

// ParseRat reads the canonical form of a fraction; it is false if s is none.
func ParseRat(s string) (Rat, bool) {
	over, under, divided := strings.Cut(s, "/")
	numerator, ok := ParseInt(over)
	if !ok {
		return Rat{}, false
	}
	if !divided {
		return Rat{numerator: numerator}, true
	}
	if !isNatural(under) || under == "0" || under == "1" {
		return Rat{}, false
	}
	denominator := readDigits(under)
	if !gcd(numerator.absolute, denominator).isOne() {
		return Rat{}, false
	}
	return lowest(numerator, denominator), true
}

// String is the canonical form.
func (r Rat) String() string {
	if r.isWhole() {
		return r.numerator.String()
	}
	return r.numerator.String() + "/" + r.denominator.text()
}

// Num is the numerator.
func (r Rat) Num() Int {
	return signed(r.numerator.negative, r.numerator.absolute.copied())
}

// Den is the denominator.
func (r Rat) Den() Int {
	return signed(false, r.below().copied())
}

// BitLengths are the least m and n for which the absolute value of the numerator is less than 2^m and the denominator less than 2^n.
func (r Rat) BitLengths() (int, int) {
	return r.numerator.BitLength(), r.below().bitLength()
}

// Sign is -1, 0 or 1.
func (r Rat) Sign() int {
	return r.numerator.Sign()
}

// Cmp is the sign of r - s.
func (r Rat) Cmp(s Rat) int {
	if r.isWhole() && s.isWhole() {
		return r.numerator.Cmp(s.numerator)
	}
	return r.numerator.Times(signed(false, s.below())).Cmp(s.numerator.Times(signed(false, r.below())))
}

// Neg is -r.
func (r Rat) Neg() Rat {
	return Rat{numerator: r.numerator.Neg(), denominator: r.denominator.copied()}
}

// Plus is r + s. What the sum has in common with its denominator divides what the denominators have in common, so that the numbers that are looked at stay short.
func (r Rat) Plus(s Rat) Rat {
	if r.isWhole() && s.isWhole() {
		return Rat{numerator: r.numerator.Plus(s.numerator)}
	}
	common := gcd(r.below(), s.below())
	ownR, ownS := exactly(r.below(), common), exactly(s.below(), common)
	sum := r.numerator.Times(signed(false, ownS)).Plus(s.numerator.Times(signed(false, ownR)))
	shared := gcd(sum.absolute, common)
	numerator := signed(sum.negative, exactly(sum.absolute, shared))
	return lowest(numerator, ownR.times(exactly(s.below(), shared)))
}

// Minus is r - s.
func (r Rat) Minus(s Rat) Rat {
	return r.Plus(Rat{numerator: signed(!s.numerator.negative, s.numerator.absolute), denominator: s.denominator})
}

// Times is r s.
func (r Rat) Times(s Rat) Rat {
	if r.isWhole() && s.isWhole() {
		return Rat{numerator: r.numerator.Times(s.numerator)}
	}
	overR, underS := shorten(r.numerator.absolute, s.below())
	overS, underR := shorten(s.numerator.absolute, r.below())
	negative := r.numerator.negative != s.numerator.negative
	return lowest(signed(negative, overR.times(overS)), underR.times(underS))
}

// Over is r divided by s, which is not 0.
func (r Rat) Over(s Rat) Rat {
	return r.Times(lowest(signed(s.numerator.negative, s.below()), s.numerator.absolute))
}

// shorten is a and b, of which b is not 0, divided by their greatest common divisor.
func shorten(a, b digits) (digits, digits) {
	common := gcd(a, b)
	return exactly(a, common), exactly(b, common)
}

// Floor is the greatest integer that is at most r.
func (r Rat) Floor() Int {
	floor, _ := r.numerator.Div(signed(false, r.below()))
	return floor
}
