package quad

import (
	"iter"

	"stadda/api"
	"stadda/num"
)

const (
	leastDisc        = -20_000    // the least discriminant
	leastProductDisc = -4_000_000 // the least discriminant of forms with a product
)

// isDisc tells whether d is a discriminant.
func isDisc(d int64) bool {
	return d >= leastDisc && d <= -3 && (-d%4 == 0 || -d%4 == 3)
}

// Class is the class list of d.
func Class(d int64) ([]Form, api.Errno) {
	if !isDisc(d) {
		return nil, api.ErrDisc
	}
	var list []Form
	for f := range reducedForms(d) {
		if f.primitive() {
			list = append(list, f)
		}
	}
	return list, api.OK
}

// reducedForms yields the reduced forms of the discriminant d, rising. In all of them b b <= a c, so that 3 a a <= 3 a c <= -d.
func reducedForms(d int64) iter.Seq[Form] {
	return func(yield func(Form) bool) {
		for a := int64(1); 3*a*a <= -d; a++ {
			for b := 1 - a; b <= a; b++ {
				c := (b*b - d) / (4 * a)
				if (b*b-d)%(4*a) != 0 || c < a || c == a && b < 0 {
					continue
				}
				if !yield(Form{a, b, c}) {
					return
				}
			}
		}
	}
}

// Unit is the unit of d.
func Unit(d int64) (Form, api.Errno) {
	if !isDisc(d) {
		return Form{}, api.ErrDisc
	}
	var unit Form
	for f := range reducedForms(d) {
		unit = f // the only one whose a, its least value, is 1: it comes first
		break
	}
	return unit, api.OK
}

// Product is the product of f and g.
func Product(f, g Form) (Form, api.Errno) {
	if e := checkAll(f, g); e != api.OK {
		return Form{}, e
	}
	if f.disc() != g.disc() || f.disc() < leastProductDisc {
		return Form{}, api.ErrDisc
	}
	if !f.primitive() || !g.primitive() {
		return Form{}, api.ErrMulti
	}
	return product(f, g), api.OK
}

// product is the product of f and g: g is changed so that its a has no common divisor with that of f.
func product(f, g Form) Form {
	f, _ = f.reduced()
	g, _ = g.reduced()
	if f[0] > g[0] { // the lesser a is that of the form whose c may be great, which is better left as it is
		f, g = g, f
	}
	x, y := firstPair(func(x, y int64) bool {
		return common(f[0], g.at(x, y)) == 1
	})
	d := f.disc()
	g = g.changed(with(x, y))
	a := f[0] * g[0] // f[0] < 1155 has at most four primes, so x + y <= 13, and a is less than 10^9
	b, _, _ := num.Meet(f[1], 2*f[0], g[1], 2*g[0])
	h, _ := Form{a, b, (b*b - d) / (4 * a)}.reduced()
	return h
}

// firstPair is the first pair that fits, of numbers from 0 on, those with a lesser sum first. What fits here is a value without a common divisor with some number: primitive forms have such values, and the first pair has no common divisor itself, as the pair divided by it would fit, too.
func firstPair(fits func(x, y int64) bool) (int64, int64) {
	for sum := int64(1); ; sum++ {
		for y := range sum + 1 {
			if fits(sum-y, y) {
				return sum - y, y
			}
		}
	}
}

// with is a change that takes 1, 0 to x, y, numbers from 0 on without a common divisor greater than 1.
func with(x, y int64) matrix {
	if y == 0 {
		return matrix{{1, 0}, {0, 1}}
	}
	inverse, _ := num.Inverse(x, y)
	return matrix{{x, (x*inverse - 1) / y}, {y, inverse}}
}

// Order is the order of f.
func Order(f Form) (int, api.Errno) {
	if e := checkClass(f); e != api.OK {
		return 0, e
	}
	r, _ := f.reduced()
	count := map[Form]int{} // how often a class was met
	for power := r; count[power] == 0; power = product(power, r) {
		count[power]++
	}
	return len(count), api.OK // all powers up to the unit, after which they begin again
}

// checkClass tells whether the class of f is in a class list.
func checkClass(f Form) api.Errno {
	switch {
	case Check(f) != api.OK:
		return api.ErrQuad
	case !f.primitive():
		return api.ErrMulti
	case f.disc() < leastDisc:
		return api.ErrDisc
	}
	return api.OK
}
