package num

import "stadda/api"

// attempt is what calculate returns, or ErrSize if it is left because its result is not small.
func attempt[T Int | Rat](calculate func() T) (result T, e api.Errno) {
	defer func() {
		if recover() != nil {
			e = api.ErrSize
		}
	}()
	return calculate(), api.OK
}

// mustBeSmall leaves the calculation if the number is not small.
func mustBeSmall(d digits) {
	if d.bitLength() > api.MaxBits {
		panic(api.ErrSize)
	}
}
