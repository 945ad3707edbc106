package poly

import (
	"stadda/exact"
	"stadda/num"
)

// field is the ring of remainders by a prime, which has at most 31 bits.
type field int64

// remainders are the coefficients of a polynomial by a prime.
type remainders = shape[int64]

func (p field) of(a exact.Int) int64 {
	_, rest := a.Div(exact.Whole(int64(p)))
	n, _ := rest.Int64()
	return n
}

func (p field) isZero(a int64) bool {
	return a == 0
}

func (p field) plus(a, b int64) int64 {
	return (a + b) % int64(p)
}

func (p field) minus(a, b int64) int64 {
	return (a - b + int64(p)) % int64(p)
}

func (p field) times(a, b int64) int64 {
	return a * b % int64(p)
}

// inverse is the inverse of a, which is not 0.
func (p field) inverse(a int64) int64 {
	inverse, _ := num.Inverse(a, int64(p))
	return inverse
}

// fields yields the fields by the primes from 3 on.
func fields(yield func(field) bool) {
	for p := int64(3); ; p += 2 {
		factors, _ := num.Factors(p)
		if factors[0][0] == p && !yield(field(p)) {
			return
		}
	}
}

// monic is f, which is not 0, divided by its last coefficient.
func (p field) monic(f remainders) remainders {
	return scaledShape(p, p.inverse(f[len(f)-1]), f)
}

// common is the monic common divisor of f and g, of which f is not 0, of the highest degree.
func (p field) common(f, g remainders) remainders {
	for len(g) > 0 {
		g = p.monic(g)
		_, rest := division(p, f, g)
		f, g = g, rest
	}
	return p.monic(f)
}

// bezout are s, of less degree than h, and t with s g + t h = 1, for g and a monic h without a common divisor (Euclid's algorithm: each rest is kept together with the polynomial by which g makes it, if a multiple of h is left out of account).
func (p field) bezout(g, h remainders) (remainders, remainders) {
	last, lastBy := g, oneOf(p)
	rest, by := h, remainders(nil)
	for len(rest) > 0 {
		c := p.inverse(rest[len(rest)-1])
		rest, by = scaledShape(p, c, rest), scaledShape(p, c, by)
		quotient, next := division(p, last, rest)
		nextBy := difference(p, lastBy, product(p, quotient, by))
		last, lastBy, rest, by = rest, by, next, nextBy
	}
	_, s := division(p, lastBy, h)
	t, _ := division(p, difference(p, oneOf(p), product(p, s, g)), h)
	return s, t
}

// hasNoSquare reports whether a has the same degree by p, and is divided by no square there.
func (p field) hasNoSquare(a whole) bool {
	f := reduced(p, a)
	return len(f) == len(a) && len(p.common(f, reduced(p, a.derived()))) == 1
}

// made is a polynomial and the coefficients by which Berlekamp's rows make it.
type made struct {
	row, by remainders
}

// unmoved are a basis of the polynomials v of less degree than f for which f divides v^p - v; the first of them is 1. They are the sums of c_i x^i for which the sum of the rows c_i (x^(p i) - x^i) is 0 by f.
func (p field) unmoved(f remainders) []remainders {
	var basis []remainders
	// Each row has the place that its length says; that of the row 0 stays empty.
	pivots := make([]made, len(f))
	step := p.powerOfX(f)
	power := oneOf(p)
	for i := range len(f) - 1 {
		x := p.monomial(i)
		m := made{row: difference(p, power, x), by: x}
		for len(pivots[len(m.row)].row) > 0 {
			c, pivot := m.row[len(m.row)-1], pivots[len(m.row)]
			m = made{row: lessMultiple(p, m.row, c, 0, pivot.row), by: lessMultiple(p, m.by, c, 0, pivot.by)}
		}
		if len(m.row) == 0 {
			basis = append(basis, m.by)
		} else {
			c := p.inverse(m.row[len(m.row)-1])
			pivots[len(m.row)] = made{row: scaledShape(p, c, m.row), by: scaledShape(p, c, m.by)}
		}
		_, power = division(p, product(p, power, step), f)
	}
	return basis
}

// monomial is x^i.
func (p field) monomial(i int) remainders {
	x := make(remainders, i+1)
	x[i] = 1
	return x
}

// powerOfX is the rest of x^p by f.
func (p field) powerOfX(f remainders) remainders {
	power := oneOf(p)
	square := p.monomial(1)
	for n := int64(p); n > 0; n /= 2 {
		if n%2 == 1 {
			_, power = division(p, product(p, power, square), f)
		}
		_, square = division(p, product(p, square, square), f)
	}
	return power
}

// factors are the monic irreducible factors of f, which is monic and divided by no square (Berlekamp). Each of them divides just one of the v - c, for each unmoved v, and there are as many of them as there are v in the basis.
func (p field) factors(f remainders) []remainders {
	basis := p.unmoved(f)
	factors := []remainders{f}
	for _, v := range basis[1:] {
		var finer []remainders
		for _, u := range factors {
			finer = append(finer, p.split(u, v)...)
		}
		factors = finer
		if len(factors) == len(basis) {
			break
		}
	}
	return factors
}

// split are the common divisors of u and v - c for all numbers c, as far as they are not 1; u is their product.
func (p field) split(u, v remainders) []remainders {
	var divisors []remainders
	degree := 0
	for c := int64(0); degree < len(u)-1; c++ {
		divisor := p.common(u, lessMultiple(p, v, c, 0, oneOf(p)))
		if len(divisor) > 1 {
			divisors = append(divisors, divisor)
			degree += len(divisor) - 1
		}
	}
	return divisors
}
