package quad

import (
	"slices"

	"stadda/api"
	"stadda/num"
)

// maxValue is the greatest number that Points and Symbol look at.
const maxValue = 1_000_000

// Points are the points at which f has the value n, rising.
func Points(f Form, n int64) ([][2]int64, api.Errno) {
	if e := Check(f); e != api.OK {
		return nil, e
	}
	if n < 1 || n > maxValue {
		return nil, api.ErrArg
	}
	r, m := f.reduced() // its points are near 0, 0, and the change takes them to those of f
	var points [][2]int64
	for _, p := range r.points(n) {
		points = append(points, [2]int64{m[0][0]*p[0] + m[0][1]*p[1], m[1][0]*p[0] + m[1][1]*p[1]})
	}
	slices.SortFunc(points, func(p, q [2]int64) int {
		return slices.Compare(p[:], q[:])
	})
	return points, api.OK
}

// points are the points at which r, a reduced form, has the value n: (2 c y + b x)^2 = 4 c n + d x x.
func (r Form) points(n int64) [][2]int64 {
	b, c, d := r[1], r[2], r.disc()
	last := root(4 * c * n / -d)
	var points [][2]int64
	for x := -last; x <= last; x++ {
		square := 4*c*n + d*x*x
		side := root(square)
		if side*side != square {
			continue
		}
		if (side-b*x)%(2*c) == 0 {
			points = append(points, [2]int64{x, (side - b*x) / (2 * c)})
		}
		if side > 0 && (side+b*x)%(2*c) == 0 {
			points = append(points, [2]int64{x, (-side - b*x) / (2 * c)})
		}
	}
	return points
}

// root is the greatest integer whose square is at most n.
func root(n int64) int64 {
	root, _ := num.Whole(n).Root()
	whole, _ := root.Int64()
	return whole
}

// Characters are the characters of f.
func Characters(f Form) ([]int, api.Errno) {
	if e := checkClass(f); e != api.OK {
		return nil, e
	}
	d := f.disc()
	n := f.at(firstPair(func(x, y int64) bool {
		return common(f.at(x, y), 2*d) == 1
	}))
	var characters []int
	for _, p := range oddPrimes(-d) {
		symbol, _ := num.Symbol(n, p)
		characters = append(characters, symbol)
	}
	if d%4 == 0 {
		characters = append(characters, evenCharacters(n, -d/4)...)
	}
	return characters, api.OK
}

// oddPrimes are the odd primes that divide n, rising.
func oddPrimes(n int64) []int64 {
	factors, _ := num.Factors(n)
	var primes []int64
	for _, p := range factors {
		if p[0] > 2 {
			primes = append(primes, p[0])
		}
	}
	return primes
}

// evenCharacters are those of n that there are because the discriminant is -4 k.
func evenCharacters(n, k int64) []int {
	u, v := 1, 1
	if n%4 == 3 {
		u = -1
	}
	if n%8 == 3 || n%8 == 5 {
		v = -1
	}
	switch k % 8 {
	case 0:
		return []int{u, v}
	case 1, 4, 5:
		return []int{u}
	case 2:
		return []int{u * v}
	case 6:
		return []int{v}
	}
	return nil
}

// Symbol is the symbol of d at n.
func Symbol(d, n int64) (int, api.Errno) {
	if !isDisc(d) {
		return 0, api.ErrDisc
	}
	if n < 1 || n > maxValue {
		return 0, api.ErrArg
	}
	symbol := 1
	factors, _ := num.Factors(n)
	for _, p := range factors {
		for range p[1] {
			symbol *= symbolAt(d, p[0])
		}
	}
	return symbol, api.OK
}

// symbolAt is the symbol of d at the prime p.
func symbolAt(d, p int64) int {
	if p > 2 {
		symbol, _ := num.Symbol(d, p)
		return symbol
	}
	switch d % 8 {
	case 1, -7:
		return 1
	case -3:
		return -1
	}
	return 0
}
