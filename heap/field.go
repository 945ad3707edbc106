package heap

import "stadda/api"

const (
	fieldBits = 16
	fieldSize = 1 << fieldBits
)

// inField tells whether all the numbers are of the field.
func inField(numbers ...int) bool {
	for _, a := range numbers {
		if a < 0 || a >= fieldSize {
			return false
		}
	}
	return true
}

// product is the product of a and b. It comes from products of their upper and lower halves: with h = 2^half, a = A h + a' and b = B h + b', h times itself is h + h/2, and h times a lesser number is their ordinary product.
func product(a, b int) int {
	var times func(a, b, bits int) int
	times = func(a, b, bits int) int {
		if a < 2 || b < 2 {
			return a * b
		}
		half := bits / 2
		lower := 1<<half - 1
		high := times(a>>half, b>>half, half)
		low := times(a&lower, b&lower, half)
		all := times(a>>half^a&lower, b>>half^b&lower, half) // high, low and both mixed products
		return (all^low)<<half ^ low ^ times(high, 1<<(half-1), half)
	}
	return times(a, b, fieldBits)
}

// power is the product of n times a.
func power(a, n int) int {
	result := 1
	for ; n > 0; n /= 2 {
		if n%2 == 1 {
			result = product(result, a)
		}
		a = product(a, a)
	}
	return result
}

// Times is the product of a and b.
func Times(a, b int) (int, api.Errno) {
	if !inField(a, b) {
		return 0, api.ErrArg
	}
	return product(a, b), api.OK
}

// Inverse is the number whose product with a is 1.
func Inverse(a int) (int, api.Errno) {
	if !inField(a) {
		return 0, api.ErrArg
	}
	if a == 0 {
		return 0, api.ErrNone
	}
	return power(a, fieldSize-2), api.OK // as a to the power fieldSize is a
}

// Root is the number whose product with itself is a.
func Root(a int) (int, api.Errno) {
	if !inField(a) {
		return 0, api.ErrArg
	}
	return power(a, fieldSize/2), api.OK // as a to the power fieldSize is a
}

// Power is the product of n times a.
func Power(a, n int) (int, api.Errno) {
	if !inField(a) || n < 0 {
		return 0, api.ErrArg
	}
	return power(a, n), api.OK
}
