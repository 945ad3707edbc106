package poly

import (
	"stadda/api"
	"stadda/exact"
	"stadda/num"
)

// What the functions that look for divisors take: degrees, and absolute values of numerators and denominators.
const (
	maxDegree = 12
	maxNumber = 999_999_999_999_999
)

// checked is OK if all polynomials are such that their divisors may be looked for.
func checked(polynomials ...Poly) api.Errno {
	for _, f := range polynomials {
		if f.Degree() > maxDegree {
			return api.ErrDegree
		}
		for _, c := range f.terms {
			if !isShort(c.Num()) || !isShort(c.Den()) {
				return api.ErrSize
			}
		}
	}
	return api.OK
}

func isShort(a exact.Int) bool {
	n, ok := a.Int64()
	return ok && -maxNumber <= n && n <= maxNumber
}

// Gcd is the monic common divisor of the highest degree, 0 if both are 0.
func Gcd(f, g Poly) (Poly, api.Errno) {
	if e := checked(f, g); e != api.OK {
		return Poly{}, e
	}
	return attempt(func() Poly { return smallPoly(commonOf(f.terms, g.terms)) })
}

// commonOf is the monic common divisor of the highest degree, 0 if both are 0.
func commonOf(f, g list) list {
	a, _ := f.cleared()
	b, _ := g.cleared()
	return common(a, b).monic()
}

// Bezout is the monic common divisor d of the highest degree, and u and v with u f + v g = d, with a degree of u less than that of g / d.
func Bezout(f, g Poly) (Poly, Poly, Poly, api.Errno) {
	if e := checked(f, g); e != api.OK {
		return Poly{}, Poly{}, Poly{}, e
	}
	result, e := attempt(func() [3]Poly {
		d, u, v := bezout(f.terms, g.terms)
		return [3]Poly{smallPoly(d), smallPoly(u), smallPoly(v)}
	})
	return result[0], result[1], result[2], e
}

// bezout is Euclid's algorithm: each rest is kept together with the polynomial by which f makes it, if a multiple of g is left out of account. Rests are made monic, so that their coefficients stay short.
func bezout(f, g list) (d, u, v list) {
	d, u = monicPair(f, constant(exact.Of(1)))
	rest, by := monicPair(g, nil)
	for len(rest) > 0 {
		next, nextBy := d, u
		for k := len(d) - len(rest); k >= 0; k-- {
			if len(next) == len(rest)+k {
				c := next.leading().Neg()
				next, nextBy = next.combined(c, k, rest), nextBy.combined(c, k, by)
			}
		}
		d, u = rest, by
		rest, by = monicPair(next, nextBy)
	}
	if len(g) > 0 {
		v, _ = d.combined(exact.Of(-1), 0, u.times(f)).divided(g)
	}
	return d, u, v
}

// monicPair is f made monic, and g divided by the same number; of f = 0 it is 0 and 0.
func monicPair(f, g list) (list, list) {
	if len(f) == 0 {
		return nil, nil
	}
	c := exact.Of(1).Over(f.leading())
	return f.scaled(c), g.scaled(c)
}

// Resultant is the determinant of Sylvester's matrix.
func Resultant(f, g Poly) (num.Rat, api.Errno) {
	if e := checked(f, g); e != api.OK {
		return num.Rat{}, e
	}
	return attempt(func() num.Rat { return limited(small(resultantOf(f.terms, g.terms))) })
}

// resultantOf is the resultant of f and g. A factor of a polynomial counts as often as the degree of the other one says.
func resultantOf(f, g list) exact.Rat {
	a, factorA := f.cleared()
	b, factorB := g.cleared()
	product := exact.From(resultant(a, b))
	for range b.degree() {
		product = product.Times(factorA)
	}
	for range a.degree() {
		product = product.Times(factorB)
	}
	return product
}

// Free are the free parts of f.
func Free(f Poly) ([]Part, api.Errno) {
	if e := checkedFactors(f); e != api.OK {
		return nil, e
	}
	return attempt(func() []Part {
		var parts []Part
		a, _ := f.terms.cleared()
		for part, power := range freeParts(a) {
			parts = append(parts, Part{Poly: smallPoly(part.monic()), Power: power})
		}
		return parts
	})
}

// checkedFactors is OK if all polynomials are such that their factors may be looked for.
func checkedFactors(polynomials ...Poly) api.Errno {
	if e := checked(polynomials...); e != api.OK {
		return e
	}
	for _, f := range polynomials {
		if len(f.terms) == 0 {
			return api.ErrZero
		}
	}
	return api.OK
}
