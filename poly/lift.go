package poly

import "stadda/exact"

// numbers are the coefficients of a polynomial by a modulus of any size.
type numbers = shape[exact.Int]

// pair are two monic polynomials whose product is some polynomial by the modulus of the ring, and two more with s g + t h = 1 there, s of less degree than h and t than g.
type pair struct {
	ring residues
	g, h numbers
	s, t numbers
}

// doubled is the pair for f by the square of the modulus (Hensel).
func (a pair) doubled(f numbers) pair {
	r := residues{a.ring.modulus.Times(a.ring.modulus)}
	gap := difference(r, inRing(r, f), product(r, a.g, a.h))
	quotient, rest := division(r, product(r, a.s, gap), a.h)
	g := sum(r, a.g, sum(r, product(r, a.t, gap), product(r, quotient, a.g)))
	h := sum(r, a.h, rest)
	excess := difference(r, sum(r, product(r, a.s, g), product(r, a.t, h)), oneOf(r))
	quotient, rest = division(r, product(r, a.s, excess), h)
	s := difference(r, a.s, rest)
	t := difference(r, a.t, sum(r, product(r, a.t, excess), product(r, quotient, g)))
	return pair{ring: r, g: g, h: h, s: s, t: t}
}

// inRing is f by the modulus of r, which divides its own.
func inRing(r residues, f numbers) numbers {
	return reduced(r, whole(f))
}

// unreduced is f with the numbers from 0 to p - 1 that its coefficients are.
func unreduced(f remainders) numbers {
	g := make(numbers, len(f))
	for i, c := range f {
		g[i] = exact.Whole(c)
	}
	return g
}

// pairOf is the pair of g and h by p.
func (p field) pairOf(g, h remainders) pair {
	s, t := p.bezout(g, h)
	return pair{ring: p.residues(), g: unreduced(g), h: unreduced(h), s: unreduced(s), t: unreduced(t)}
}

// residues are the same ring, of numbers of any size.
func (p field) residues() residues {
	return residues{exact.Whole(int64(p))}
}

// above is the first of the rings by p, p^2, p^4 and so on whose modulus is greater than the bound.
func (p field) above(bound exact.Int) residues {
	r := p.residues()
	for r.modulus.Cmp(bound) <= 0 {
		r.modulus = r.modulus.Times(r.modulus)
	}
	return r
}

// monicIn is a divided by its last coefficient, by the modulus of r, a power of p, which does not divide that coefficient. Where c is an inverse by some modulus, c (2 - a c) is one by its square.
func (p field) monicIn(r residues, a whole) numbers {
	two := exact.Whole(2)
	inverse := exact.Whole(p.inverse(p.of(a.leading())))
	for modulus := p.residues().modulus; modulus.Cmp(r.modulus) < 0; modulus = modulus.Times(modulus) {
		inverse = r.times(inverse, r.minus(two, r.times(a.leading(), inverse)))
	}
	return scaledShape(r, inverse, reduced(r, a))
}

// lifted are the factors by the modulus of r, a power of p, that are the given factors by p; the product of these is f, which is monic.
func (p field) lifted(r residues, f numbers, factors []remainders) []numbers {
	var all []numbers
	for i, factor := range factors[:len(factors)-1] {
		a := p.pairOf(product(p, factors[i+1:]...), factor)
		for a.ring.modulus.Cmp(r.modulus) < 0 {
			a = a.doubled(f)
		}
		all = append(all, a.h)
		f = a.g
	}
	return append(all, f)
}
