package poly

import (
	"stadda/api"
	"stadda/exact"
	"stadda/num"
)

// Add is f + g.
func (f Poly) Add(g Poly) (Poly, api.Errno) {
	return attempt(func() Poly { return smallPoly(f.terms.combined(exact.Of(1), 0, g.terms)) })
}

// Sub is f - g.
func (f Poly) Sub(g Poly) (Poly, api.Errno) {
	return attempt(func() Poly { return smallPoly(f.terms.combined(exact.Of(-1), 0, g.terms)) })
}

// Mul is f g.
func (f Poly) Mul(g Poly) (Poly, api.Errno) {
	if f.Degree()+g.Degree() > api.MaxDegree {
		return Poly{}, api.ErrDegree
	}
	return attempt(func() Poly { return Poly{f.terms.times(g.terms)} })
}

// Div is the quotient of f by g, and the rest, of a degree less than that of g.
func (f Poly) Div(g Poly) (Poly, Poly, api.Errno) {
	if len(g.terms) == 0 {
		return Poly{}, Poly{}, api.ErrZero
	}
	result, e := attempt(func() [2]Poly {
		quotient, rest := f.terms.divided(g.terms)
		return [2]Poly{{quotient}, smallPoly(rest)}
	})
	return result[0], result[1], e
}

// At is the value of f at r.
func (f Poly) At(r num.Rat) (num.Rat, api.Errno) {
	return attempt(func() num.Rat { return limited(f.terms.at(unlimited(r))) })
}

// Derive is the derivative of f.
func (f Poly) Derive() (Poly, api.Errno) {
	return attempt(func() Poly { return smallPoly(f.terms.derived()) })
}

// Shift is f(x + r).
func (f Poly) Shift(r num.Rat) (Poly, api.Errno) {
	return attempt(func() Poly { return Poly{f.terms.shifted(unlimited(r))} })
}
