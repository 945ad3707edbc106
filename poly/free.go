package poly

import "iter"

// freeParts yields the free parts of a, which is not 0, as primitive polynomials, and their powers, rising (Yun). left is the product of the factors whose power is still to come. Its derivative is a sum of products, each with the derivative of one factor; slope is the same sum, but each product counts as often as the power of its factor is above the last one that was looked at. So the factors with the power 1 more divide what slope is more than the derivative.
func freeParts(a whole) iter.Seq2[whole, int] {
	return func(yield func(whole, int) bool) {
		derivative := a.derived()
		multiple := common(a, derivative)
		left, slope := a.quotient(multiple), derivative.quotient(multiple)
		for power := 1; left.degree() > 0; power++ {
			slope = slope.minus(left.derived())
			part := common(left, slope)
			if part.degree() > 0 && !yield(part, power) {
				return
			}
			left, slope = left.quotient(part), slope.quotient(part)
		}
	}
}
