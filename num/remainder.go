package num

import (
	"math/bits"

	"stadda/api"
)

// maxModulus is the greatest modulus.
const maxModulus = 1_000_000_000_000

func isModulus(m int64) bool {
	return m >= 1 && m <= maxModulus
}

// modulo is the rest of a by m, from 0 to m - 1.
func modulo(a, m int64) int64 {
	r := a % m
	if r < 0 {
		r += m
	}
	return r
}

// timesModulo is the rest of a b by m, for a and b from 0 to m - 1.
func timesModulo(a, b, m int64) int64 {
	high, low := bits.Mul64(uint64(a), uint64(b))
	return int64(bits.Rem64(high, low, uint64(m)))
}

// Power is the rest of a to the power n by m.
func Power(a, n, m int64) (int64, api.Errno) {
	if !isModulus(m) || n < 0 {
		return 0, api.ErrArg
	}
	power, square := modulo(1, m), modulo(a, m)
	for ; n > 0; n /= 2 {
		if n%2 == 1 {
			power = timesModulo(power, square, m)
		}
		square = timesModulo(square, square, m)
	}
	return power, api.OK
}

// Inverse is the x from 0 to m - 1 for which a x leaves the same rest as 1 by m.
func Inverse(a, m int64) (int64, api.Errno) {
	if !isModulus(m) {
		return 0, api.ErrArg
	}
	common, x := euclid(modulo(a, m), m)
	if common > 1 {
		return 0, api.ErrNone
	}
	return x, api.OK
}

// euclid is the greatest common divisor of a and m, for a from 0 to m - 1, and an x from 0 to m - 1 for which a x leaves the same rest as it by m.
func euclid(a, m int64) (int64, int64) {
	common, next := a, m
	x, nextX := int64(1), int64(0)
	for next > 0 {
		q := common / next
		common, next = next, common-q*next
		x, nextX = nextX, x-q*nextX
	}
	return common, modulo(x, m)
}

// Meet is the least number from 0 on that leaves the same rest as a by m and as b by n, and the least number that m and n divide.
func Meet(a, m, b, n int64) (int64, int64, api.Errno) {
	if !isModulus(m) || !isModulus(n) {
		return 0, 0, api.ErrArg
	}
	common, x := euclid(modulo(m, n), n)
	if m/common > maxModulus/n {
		return 0, 0, api.ErrLong
	}
	first := modulo(a, m)
	apart := modulo(b, n) - first
	if apart%common != 0 {
		return 0, 0, api.ErrNone
	}
	own := n / common // m x and the common divisor leave the same rest by n, so m/common x and 1 by own
	steps := timesModulo(modulo(apart/common, own), modulo(x, own), own)
	return first + m*steps, m * own, api.OK
}
