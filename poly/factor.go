package poly

import (
	"cmp"
	"iter"
	"slices"

	"stadda/api"
	"stadda/exact"
	"stadda/num"
)

// maxSpread is the greatest integer of a spread.
const maxSpread = 1_000_000_000_000_000_000

// Factor are the last coefficient of f, and its monic irreducible factors with their powers.
func Factor(f Poly) (num.Rat, []Part, api.Errno) {
	if e := checkedFactors(f); e != api.OK {
		return num.Rat{}, nil, e
	}
	parts, e := attempt(func() []Part { return partsOf(f.terms) })
	if e != api.OK {
		return num.Rat{}, nil, e
	}
	return limited(f.terms.leading()), parts, api.OK
}

// partsOf are the monic irreducible factors of f, which is not 0, and their powers, in order.
func partsOf(f list) []Part {
	var parts []Part
	a, _ := f.cleared()
	for free, power := range freeParts(a) {
		for _, factor := range irreducible(free) {
			parts = append(parts, Part{Poly: smallPoly(factor.monic()), Power: power})
		}
	}
	slices.SortFunc(parts, func(a, b Part) int { return compareLists(a.Poly.terms, b.Poly.terms) })
	return parts
}

// compareLists compares by degree, then by the coefficients from that of x^0 on.
func compareLists(f, g list) int {
	return cmp.Or(cmp.Compare(len(f), len(g)), slices.CompareFunc(f, g, exact.Rat.Cmp))
}

// Roots are the fractions at which f is 0, rising.
func Roots(f Poly) ([]num.Rat, api.Errno) {
	if e := checkedFactors(f); e != api.OK {
		return nil, e
	}
	return attempt(func() []num.Rat {
		var roots []num.Rat
		for _, part := range partsOf(f.terms) {
			if part.Poly.Degree() == 1 {
				roots = append(roots, limited(part.Poly.terms[0].Neg()))
			}
		}
		slices.SortFunc(roots, num.Rat.Cmp)
		return roots
	})
}

// Spread are the integers h from 0 to maxSpread for which f and g(x + h) have a common divisor of degree at least 1, rising.
func Spread(f, g Poly) ([]int64, api.Errno) {
	if e := checkedFactors(f, g); e != api.OK {
		return nil, e
	}
	return attempt(func() []int64 {
		var spread []int64
		partsOfG := partsOf(g.terms)
		for _, p := range partsOf(f.terms) {
			for _, q := range partsOfG {
				if h, ok := apart(p.Poly.terms, q.Poly.terms); ok {
					spread = append(spread, h)
				}
			}
		}
		slices.Sort(spread)
		return slices.Compact(spread)
	})
}

// apart is the integer h from 0 to maxSpread for which p is q(x + h), both monic and of degree at least 1; it is false if there is none. The coefficients behind the last ones differ by the degree times h.
func apart(p, q list) (int64, bool) {
	degree := p.degree()
	if q.degree() != degree {
		return 0, false
	}
	by := p[degree-1].Minus(q[degree-1]).Over(exact.Of(int64(degree)))
	h, ok := by.Num().Int64()
	if !ok || by.Cmp(exact.Of(h)) != 0 || h < 0 || h > maxSpread {
		return 0, false
	}
	if compareLists(q.shifted(by), p) != 0 {
		return 0, false
	}
	return h, true
}

// piece is a factor by a modulus: its degree, and its place among the lifted factors.
type piece struct {
	degree, place int
}

// irreducible are the irreducible factors of a, which is primitive, of degree at least 1 and divided by no square; they are primitive, too. Each is made of some of the factors by a prime. One of two factors has at most half the degree; what is made of fewer factors by the prime is tried sooner, so that what divides a has no factors itself.
func irreducible(a whole) []whole {
	var found []whole
	p, factors := bestField(a)
	r := p.above(a.boundOfFactors())
	lifted := p.lifted(r, p.monicIn(r, a), factors)
	pieces := piecesOf(lifted)
	size := 1
search:
	for 2*size <= a.degree() {
		for chosen := range subsets(pieces, size) {
			if 2*degreeOf(chosen) > a.degree() {
				continue
			}
			factor := r.candidate(a.leading(), chosen, lifted)
			if rest, ok := a.over(factor); ok {
				found = append(found, factor)
				a = rest
				pieces = slices.DeleteFunc(pieces, func(p piece) bool { return slices.Contains(chosen, p) })
				continue search
			}
		}
		size++
	}
	return append(found, a)
}

// bestField is that of three fields in which a has the fewest factors, and these, monic.
func bestField(a whole) (field, []remainders) {
	var best field
	var fewest []remainders
	tried := 0
	for p := range fields {
		if !p.hasNoSquare(a) {
			continue
		}
		factors := p.factors(p.monic(reduced(p, a)))
		if tried == 0 || len(factors) < len(fewest) {
			best, fewest = p, factors
		}
		tried++
		if tried == 3 {
			break
		}
	}
	return best, fewest
}

// boundOfFactors is more than the double of each coefficient, in absolute value, of a factor of a, times what it takes to give it the last coefficient of a (Mignotte).
func (a whole) boundOfFactors() exact.Int {
	var height exact.Int
	for _, c := range a {
		if c.Sign() < 0 {
			c = c.Neg()
		}
		if c.Cmp(height) > 0 {
			height = c
		}
	}
	return height.Times(exact.Whole(int64(len(a)))).Times(power(exact.Whole(2), len(a)))
}

func piecesOf(lifted []numbers) []piece {
	pieces := make([]piece, len(lifted))
	for i, f := range lifted {
		pieces[i] = piece{degree: len(f) - 1, place: i}
	}
	return pieces
}

// degreeOf is the degree of what the pieces make.
func degreeOf(pieces []piece) int {
	degree := 0
	for _, p := range pieces {
		degree += p.degree
	}
	return degree
}

// candidate is the primitive polynomial that the chosen factors make by the modulus, if they make one that divides a polynomial with this last coefficient.
func (r residues) candidate(leading exact.Int, chosen []piece, lifted []numbers) whole {
	all := numbers{leading}
	for _, p := range chosen {
		all = productOfTwo(r, all, lifted[p.place])
	}
	nearest := make(whole, len(all))
	for i, c := range all {
		nearest[i] = r.nearest(c)
	}
	factor, _ := nearest.primitive()
	return factor
}

// nearest is the number nearest to 0 that leaves the rest a.
func (r residues) nearest(a exact.Int) exact.Int {
	if a.Plus(a).Cmp(r.modulus) > 0 {
		return a.Minus(r.modulus)
	}
	return a
}

// subsets yields the subsets of that size; each is new memory.
func subsets(pieces []piece, size int) iter.Seq[[]piece] {
	return func(yield func([]piece) bool) {
		if size == 0 {
			yield(nil)
			return
		}
		for last := range pieces {
			for before := range subsets(pieces[:last], size-1) {
				if !yield(append(slices.Clone(before), pieces[last])) {
					return
				}
			}
		}
	}
}
