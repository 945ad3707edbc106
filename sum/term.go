package sum

import (
	"stadda/api"
	"stadda/num"
	"stadda/poly"
)

// Term is a term, by the quotients of its values.
type Term struct {
	Top, Bottom poly.Poly
	First       num.Rat
}

// The limits of a term, and of the places of its values.
const (
	maxTermDegree = 3
	maxCoeff      = 5
	maxFirst      = 6 // digits
	maxPlace      = 1000
)

// Check is OK if t is a term.
func Check(t Term) api.Errno {
	if !isPart(t.Top) || !isPart(t.Bottom) || t.First.Sign() == 0 || !areShort([]num.Rat{t.First}, maxFirst) {
		return api.ErrTerm
	}
	return api.OK
}

// isPart reports whether f may be the top or the bottom of a term: 0 is 0 at all integers, of others an integer greater than maxCoeff is no root, as it does not divide the first coefficient that is not 0.
func isPart(f poly.Poly) bool {
	if f.Degree() > maxTermDegree {
		return false
	}
	for _, c := range f.Coeffs() {
		n, ok := c.Num().Int64()
		if !ok || n < -maxCoeff || n > maxCoeff || !isWhole(c) {
			return false
		}
	}
	for n := range int64(maxCoeff + 1) {
		if value, _ := f.At(num.Of(n)); value.Sign() == 0 {
			return false
		}
	}
	return true
}

// Value is t(n).
func Value(t Term, n int) (num.Rat, api.Errno) {
	if e := Check(t); e != api.OK {
		return num.Rat{}, e
	}
	if n < 0 || n > maxPlace {
		return num.Rat{}, api.ErrArg
	}
	return attempt(func() num.Rat { return t.value(n).Rat })
}

func (t Term) value(n int) fraction {
	value := fraction{t.First}
	for i := range n {
		value = value.times(t.ratio(i))
	}
	return value
}

// ratio is t(n + 1) divided by t(n).
func (t Term) ratio(n int) fraction {
	return valueOf(t.Top, n).over(valueOf(t.Bottom, n))
}

// Total is the sum of t(n) for n from from to to.
func Total(t Term, from, to int) (num.Rat, api.Errno) {
	if e := Check(t); e != api.OK {
		return num.Rat{}, e
	}
	if from < 0 || from > maxPlace || to < from-1 || to > maxPlace {
		return num.Rat{}, api.ErrArg
	}
	if to < from {
		return num.Rat{}, api.OK
	}
	return attempt(func() num.Rat { return t.total(from, to).Rat })
}

// total is t(from) (1 + r(from) (1 + r(from + 1) (1 + .. ))), r(n) being the ratio at n: one product of long numbers takes far less time than sums of them. None of these numbers, nor of the values and of the sums of the first of them, is as long as a third of what is small: before maxPlace Top and Bottom are less than 2^33.
func (t Term) total(from, to int) fraction {
	following := integer(1)
	for n := to - 1; n >= from; n-- {
		following = following.times(t.ratio(n)).plus(integer(1))
	}
	return t.value(from).times(following)
}
