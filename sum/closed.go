package sum

import (
	"stadda/api"
	"stadda/poly"
)

// The limits of the polynomials of a closed form.
const (
	maxClosedDegree = 60
	maxClosedDigits = 1000
)

// IsClosed reports whether p and q are a closed form of t. Of a closed form all numbers that come up here are small: q is made of divisors of Bottom(x + k), so that its coefficients have short denominators and it is 0 at no integer from 0 on; from the value of p at n comes that at n + 1, divided by Top(n) only; and p is made of its values at 0, 1, 2 and so on. So what is left because of a number that is not small is none.
func IsClosed(t Term, p, q poly.Poly) bool {
	if Check(t) != api.OK || !mayBeClosed(p) || !mayBeClosed(q) || !isMonic(q) {
		return false
	}
	is, _ := attempt(func() bool { return t.isSummedBy(p, q) && t.areCoprime(p, q) })
	return is
}

func mayBeClosed(f poly.Poly) bool {
	return f.Degree() <= maxClosedDegree && areShort(f.Coeffs(), maxClosedDigits)
}

func isMonic(f poly.Poly) bool {
	return f.Degree() >= 0 && leading(f).Cmp(integer(1).Rat) == 0
}

// isSummedBy reports whether P(x + 1) Top(x) Q(x) - P(x) Q(x + 1) Bottom(x) = Q(x) Q(x + 1) Bottom(x). Both sides are the same if they are so at more integers than their degrees say.
func (t Term) isSummedBy(p, q poly.Poly) bool {
	thisP, thisQ := valueOf(p, 0), valueOf(q, 0)
	for n := range 2*maxClosedDegree + maxTermDegree + 1 {
		nextP, nextQ := valueOf(p, n+1), valueOf(q, n+1)
		left := nextP.times(thisQ).times(valueOf(t.Top, n))
		right := thisP.plus(thisQ).times(nextQ).times(valueOf(t.Bottom, n))
		if left.Cmp(right.Rat) != 0 {
			return false
		}
		thisP, thisQ = nextP, nextQ
	}
	return true
}

// areCoprime reports whether p and q, for which isSummedBy holds, have no common divisor of degree at least 1. If they have none, q divides q(x + 1) Bottom: each irreducible divisor g of q divides Bottom, or g(x - 1) divides q, too. As q has no more of these than its degree says, g divides Bottom(x + k) for a k less than that. So it is enough to look at common divisors with these, which are short.
func (t Term) areCoprime(p, q poly.Poly) bool {
	left := q
	for k := range q.Degree() {
		bottom := shifted(t.Bottom, k)
		for {
			d := common(left, bottom)
			if d.Degree() == 0 {
				break
			}
			if common(p, d).Degree() > 0 {
				return false
			}
			left = quotient(left, d)
		}
	}
	return left.Degree() == 0
}
