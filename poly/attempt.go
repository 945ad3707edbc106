package poly

import (
	"stadda/api"
	"stadda/exact"
	"stadda/num"
)

// attempt is what calculate returns, or ErrSize if it is left because a coefficient is too large.
func attempt[T any](calculate func() T) (result T, e api.Errno) {
	defer func() {
		if recover() != nil {
			e = api.ErrSize
		}
	}()
	return calculate(), api.OK
}

// small is c, if c is small; otherwise it leaves the calculation.
func small(c exact.Rat) exact.Rat {
	over, under := c.BitLengths()
	if max(over, under) > api.MaxBits {
		panic(api.ErrSize)
	}
	return c
}

// smallPoly is the polynomial with these coefficients, if they are small; otherwise it leaves the calculation.
func smallPoly(l list) Poly {
	for _, c := range l {
		small(c)
	}
	return Poly{l}
}

// unlimited is r as a number of any size: sums of products need not be small where the result is.
func unlimited(r num.Rat) exact.Rat {
	c, _ := exact.ParseRat(r.String())
	return c
}

// limited is c, which is small, as a number of package num.
func limited(c exact.Rat) num.Rat {
	r, _ := num.Parse(c.String())
	return r
}
