package num

import (
	"stadda/api"
	"stadda/exact"
)

// attempt is what calculate returns, or ErrSize if it is left because its result is not small.
func attempt[T Int | Rat](calculate func() T) (result T, e api.Errno) {
	defer func() {
		if recover() != nil {
			e = api.ErrSize
		}
	}()
	return calculate(), api.OK
}

// mustBeSmall leaves the calculation if a number of that many bits is not small.
func mustBeSmall(bits int) {
	if bits > api.MaxBits {
		panic(api.ErrSize)
	}
}

// smallInt is a, if it is small; otherwise it leaves the calculation.
func smallInt(a exact.Int) Int {
	mustBeSmall(a.BitLength())
	return Int{a}
}

// smallRat is r, if it is small; otherwise it leaves the calculation.
func smallRat(r exact.Rat) Rat {
	over, under := r.BitLengths()
	mustBeSmall(max(over, under))
	return Rat{r}
}
