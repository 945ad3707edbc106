package num

import (
	"iter"
	"slices"

	"stadda/api"
)

// Symbol is the symbol of Jacobi of a and n.
func Symbol(a, n int64) (int, api.Errno) {
	if !isModulus(n) || n%2 == 0 {
		return 0, api.ErrArg
	}
	sign := 1
	a = modulo(a, n)
	for a > 0 {
		for a%2 == 0 {
			a /= 2
			if n%8 == 3 || n%8 == 5 {
				sign = -sign
			}
		}
		if a%4 == 3 && n%4 == 3 {
			sign = -sign
		}
		a, n = n%a, a
	}
	if n > 1 {
		return 0, api.OK
	}
	return sign, api.OK
}

// Factors are the primes that divide n, rising, each with how often it does.
func Factors(n int64) ([][2]int64, api.Errno) {
	if !isModulus(n) {
		return nil, api.ErrArg
	}
	var factors [][2]int64
	for p, power := range primesOf(n) {
		factors = append(factors, [2]int64{p, power})
	}
	return factors, api.OK
}

// Divisors are all divisors of n, rising.
func Divisors(n int64) ([]int64, api.Errno) {
	if !isModulus(n) {
		return nil, api.ErrArg
	}
	divisors := []int64{1}
	for p, power := range primesOf(n) {
		without := divisors
		factor := int64(1)
		for range power {
			factor *= p
			for _, d := range without {
				divisors = append(divisors, d*factor)
			}
		}
	}
	slices.Sort(divisors)
	return divisors, api.OK
}

// primesOf yields the primes that divide n, rising, each with how often it does.
func primesOf(n int64) iter.Seq2[int64, int64] {
	return func(yield func(int64, int64) bool) {
		left := n
		for p := range candidates {
			if p*p > left {
				break
			}
			power := int64(0)
			for left%p == 0 {
				left /= p
				power++
			}
			if power > 0 && !yield(p, power) {
				return
			}
		}
		if left > 1 {
			yield(left, 1)
		}
	}
}

// candidates yields 2, 3 and the numbers from 5 on that neither divides: all primes are among them.
func candidates(yield func(int64) bool) {
	if !yield(2) || !yield(3) {
		return
	}
	for p := int64(5); yield(p) && yield(p+2); p += 6 {
	}
}
