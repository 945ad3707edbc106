package sum

import (
	"stadda/api"
	"stadda/num"
	"stadda/poly"
)

// The greatest number of Bernoulli, and the greatest power whose sum is asked for.
const (
	maxBernoulli = 60
	maxPower     = 30
)

// Bernoulli is the number of Bernoulli at place n.
func Bernoulli(n int) (num.Rat, api.Errno) {
	if n < 0 || n > maxBernoulli {
		return num.Rat{}, api.ErrArg
	}
	return attempt(func() num.Rat { return bernoulli(n).Rat })
}

// bernoulli makes the numbers one after the other: the sum of C(m + 1, k) B(k) for k from 0 to m is 0 from m = 1 on, and 1 for m = 0.
func bernoulli(n int) fraction {
	numbers := make([]fraction, n+1)
	for m := range numbers {
		var rest fraction
		if m == 0 {
			rest = integer(1)
		}
		choices := integer(1)
		for k, b := range numbers[:m] {
			rest = rest.minus(choices.times(b))
			choices = choices.times(integer(m + 1 - k)).over(integer(k + 1))
		}
		numbers[m] = rest.over(choices)
	}
	return numbers[n]
}

// Powers is the polynomial whose value at n is 0^k + 1^k + .. + (n - 1)^k.
func Powers(k int) (poly.Poly, api.Errno) {
	if k < 0 || k > maxPower {
		return poly.Poly{}, api.ErrArg
	}
	return attempt(func() poly.Poly { return sumOf(powerOfX(k)) })
}
