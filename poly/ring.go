package poly

import "stadda/exact"

// ring is a ring of remainders by some modulus. Its elements are from 0 to the modulus less 1.
type ring[E any] interface {
	of(a exact.Int) E
	isZero(a E) bool
	plus(a, b E) E
	minus(a, b E) E
	times(a, b E) E
}

// residues are the ring by a modulus of any size.
type residues struct {
	modulus exact.Int
}

func (r residues) of(a exact.Int) exact.Int {
	_, rest := a.Div(r.modulus)
	return rest
}

func (r residues) isZero(a exact.Int) bool {
	return a.Sign() == 0
}

func (r residues) plus(a, b exact.Int) exact.Int {
	return r.of(a.Plus(b))
}

func (r residues) minus(a, b exact.Int) exact.Int {
	return r.of(a.Minus(b))
}

func (r residues) times(a, b exact.Int) exact.Int {
	return r.of(a.Times(b))
}

// shape is a polynomial over a ring: its coefficients, from that of x^0 on, the last one not 0.
type shape[E any] []E

// cutShape takes away the zeros at the end, and the spare room.
func cutShape[E any](r ring[E], f shape[E]) shape[E] {
	n := len(f)
	for n > 0 && r.isZero(f[n-1]) {
		n--
	}
	return f[:n:n]
}

// reduced is a, its coefficients as elements of the ring.
func reduced[E any](r ring[E], a whole) shape[E] {
	f := make(shape[E], len(a))
	for i, c := range a {
		f[i] = r.of(c)
	}
	return cutShape(r, f)
}

// oneOf is 1 as a polynomial over the ring.
func oneOf[E any](r ring[E]) shape[E] {
	return shape[E]{r.of(exact.Whole(1))}
}

// sum is f + g.
func sum[E any](r ring[E], f, g shape[E]) shape[E] {
	if len(f) < len(g) {
		f, g = g, f
	}
	total := make(shape[E], len(f))
	copy(total, f)
	for i, c := range g {
		total[i] = r.plus(total[i], c)
	}
	return cutShape(r, total)
}

// lessMultiple is f - c x^k g, for g of a degree of at most that of f less k.
func lessMultiple[E any](r ring[E], f shape[E], c E, k int, g shape[E]) shape[E] {
	difference := make(shape[E], len(f))
	copy(difference, f)
	for i, d := range g {
		difference[i+k] = r.minus(difference[i+k], r.times(c, d))
	}
	return cutShape(r, difference)
}

// product is the product of the factors.
func product[E any](r ring[E], factors ...shape[E]) shape[E] {
	all := oneOf(r)
	for _, f := range factors {
		all = productOfTwo(r, all, f)
	}
	return all
}

func productOfTwo[E any](r ring[E], f, g shape[E]) shape[E] {
	both := make(shape[E], len(f)+len(g))
	for k := range both {
		both[k] = r.of(exact.Int{})
	}
	for i, c := range f {
		for j, d := range g {
			both[i+j] = r.plus(both[i+j], r.times(c, d))
		}
	}
	return cutShape(r, both)
}

// division is the quotient of f by g, which is monic, and the rest.
func division[E any](r ring[E], f, g shape[E]) (shape[E], shape[E]) {
	quotient := make(shape[E], max(0, len(f)-len(g)+1))
	for k := len(f) - len(g); k >= 0; k-- {
		quotient[k] = r.of(exact.Int{})
		if len(f) == len(g)+k {
			quotient[k] = f[len(f)-1]
			f = lessMultiple(r, f, quotient[k], k, g)
		}
	}
	return cutShape(r, quotient), f
}

// scaledShape is c f.
func scaledShape[E any](r ring[E], c E, f shape[E]) shape[E] {
	return productOfTwo(r, shape[E]{c}, f)
}

// difference is f - g.
func difference[E any](r ring[E], f, g shape[E]) shape[E] {
	minusOne := r.of(exact.Whole(-1))
	return sum(r, f, scaledShape(r, minusOne, g))
}
