package sum

import (
	"stadda/num"
	"stadda/poly"
)

// polynomial is the polynomial with these coefficients, from that of x^0 on.
func polynomial(coefficients ...fraction) poly.Poly {
	return must(poly.New(plain(coefficients)))
}

// powerOfX is x^k.
func powerOfX(k int) poly.Poly {
	coefficients := make([]fraction, k+1)
	coefficients[k] = integer(1)
	return polynomial(coefficients...)
}

// product is the product of the factors.
func product(factors ...poly.Poly) poly.Poly {
	all := powerOfX(0)
	for _, f := range factors {
		all = must(all.Mul(f))
	}
	return all
}

// shifted is f(x + n).
func shifted(f poly.Poly, n int) poly.Poly {
	return must(f.Shift(num.Of(int64(n))))
}

// valueOf is f(n).
func valueOf(f poly.Poly, n int) fraction {
	return fraction{must(f.At(num.Of(int64(n))))}
}

// divided is the quotient of f by g, which is not 0, and the rest.
func divided(f, g poly.Poly) (poly.Poly, poly.Poly) {
	quotient, rest, e := f.Div(g)
	must(quotient, e)
	return quotient, rest
}

// quotient is f divided by g, which divides it and is not 0.
func quotient(f, g poly.Poly) poly.Poly {
	q, _ := divided(f, g)
	return q
}

// common is the monic common divisor of f and g, of which f is not 0, of the highest degree. Package poly's Gcd does not take degrees and coefficients as high as they are here.
func common(f, g poly.Poly) poly.Poly {
	for g.Degree() >= 0 {
		_, rest := divided(f, g)
		f, g = g, rest
	}
	return product(f, polynomial(integer(1).over(leading(f))))
}

// leading is the last coefficient of f, which is not 0.
func leading(f poly.Poly) fraction {
	return fraction{f.Coeffs()[f.Degree()]}
}
