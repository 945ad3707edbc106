package poly

import (
	"math/bits"
	"slices"

	"stadda/api"
	"stadda/exact"
)

// list are the coefficients of a polynomial, of any size, from that of x^0 on, the last one not 0. They are not changed once they are made.
type list []exact.Rat

// cut takes away the zeros at the end. It takes away the spare room too, so that appending to one list never writes into another.
func cut[S ~[]E, E interface{ Sign() int }](l S) S {
	n := len(l)
	for n > 0 && l[n-1].Sign() == 0 {
		n--
	}
	return l[:n:n]
}

// constant is the number c as a polynomial.
func constant(c exact.Rat) list {
	return cut(list{c})
}

func (f list) degree() int {
	return len(f) - 1
}

// leading is the last coefficient of f, which is not 0.
func (f list) leading() exact.Rat {
	return f[len(f)-1]
}

// combined is f + c x^k g.
func (f list) combined(c exact.Rat, k int, g list) list {
	sum := make(list, max(len(f), len(g)+k))
	copy(sum, f)
	for i, d := range g {
		sum[i+k] = sum[i+k].Plus(c.Times(d))
	}
	return cut(sum)
}

// scaled is c f.
func (f list) scaled(c exact.Rat) list {
	return list{}.combined(c, 0, f)
}

// times is f g; it leaves the calculation at the first coefficient that is not small.
func (f list) times(g list) list {
	if len(f) == 0 || len(g) == 0 {
		return nil
	}
	product := make(list, len(f)+len(g)-1)
	for k := range product {
		for i := max(0, k-len(g)+1); i <= min(k, len(f)-1); i++ {
			product[k] = product[k].Plus(f[i].Times(g[k-i]))
		}
		small(product[k])
	}
	return product
}

// divided is the quotient of f by g, which is not 0, and the rest; it leaves the calculation at the first coefficient of the quotient that is not small.
func (f list) divided(g list) (list, list) {
	quotient := make(list, max(0, len(f)-len(g)+1))
	rest := f
	for k := len(f) - len(g); k >= 0; k-- {
		if len(rest) == len(g)+k {
			quotient[k] = small(rest.leading().Over(g.leading()))
			rest = rest.combined(quotient[k].Neg(), k, g)
		}
	}
	return cut(quotient), slices.Clone(rest)
}

// derived is the derivative of f.
func (f list) derived() list {
	if len(f) == 0 {
		return nil
	}
	derivative := make(list, len(f)-1)
	for i := range derivative {
		derivative[i] = f[i+1].Times(exact.Of(int64(i + 1)))
	}
	return derivative
}

// at is the value of f at r; it leaves the calculation as soon as it is sure that this is not small.
func (f list) at(r exact.Rat) exact.Rat {
	var value exact.Rat
	b := f.boundsOfSteps()
	for _, c := range slices.Backward(f) {
		value = b.keep(value.Times(r).Plus(c))
	}
	return small(value)
}

// bounds are of numbers less than 2^size in absolute value, with a denominator less than 2^below.
type bounds struct {
	size, below int
}

// boundsOfSteps hold all that comes up on the way to a small value v = f(r). After the step with the coefficient f_j this is f_j + f_(j+1) r + .. , or (v - f_0 - f_1 r - .. ) / r^j. By the one for |r| < 1, by the other otherwise, it is at most |v| and the sum of all |f_i|. The same with the absolute value that belongs to a prime bounds the powers of the prime in the denominator: it divides the product of those of v and of all f_i.
func (f list) boundsOfSteps() bounds {
	b := bounds{size: api.MaxBits, below: api.MaxBits}
	for _, c := range f {
		over, under := c.BitLengths()
		b.size = max(b.size, over)
		b.below += under
	}
	b.size += bits.Len(uint(len(f) + 1))
	return b
}

// keep is c, if it may be within the bounds; otherwise it leaves the calculation.
func (b bounds) keep(c exact.Rat) exact.Rat {
	over, under := c.BitLengths()
	if over-under > b.size || under > b.below {
		panic(api.ErrSize)
	}
	return c
}

// shifted is f(x + r), by its Taylor coefficients: f and its derivatives at r, divided by the factorials.
func (f list) shifted(r exact.Rat) list {
	taylor := make(list, len(f))
	for k := range taylor {
		taylor[k] = f.at(r)
		f = f.derived().scaled(exact.Of(1).Over(exact.Of(int64(k + 1))))
	}
	return taylor
}
