package cube

import (
	"iter"
	"slices"

	"stadda/api"
)

// maxTwinBits is how many bits a function has at most for which a twin is found.
const maxTwinBits = 4

// orders yields all orders of the numbers from 0 to n - 1, as lists that are good until the next one comes.
func orders(n int) iter.Seq[[]int] {
	return func(yield func([]int) bool) {
		var extend func(list []int) bool
		extend = func(list []int) bool {
			if len(list) == n {
				return yield(list)
			}
			for next := range n {
				if !slices.Contains(list, next) && !extend(append(list, next)) {
					return false
				}
			}
			return true
		}
		extend(nil)
	}
}

// moved is x with the bit i moved to the place order[i].
func moved(x int, order []int) int {
	y := 0
	for i, place := range order {
		y |= x >> i & 1 << place
	}
	return y
}

// twinNumber is the twin of f for the mask and the order, as a number whose first digit is the value at 0, so that numbers are compared as tables are.
func twinNumber(f []bool, mask int, order []int) int {
	n := 0
	for x := range f {
		n *= 2
		if f[moved(x^mask, order)] {
			n++
		}
	}
	return n
}

// Twin is the first twin of f.
func Twin(f []bool) ([]bool, api.Errno) {
	if e := Check(f); e != api.OK {
		return nil, e
	}
	if width(f) > maxTwinBits {
		return nil, api.ErrLong
	}
	last := 1<<len(f) - 1
	least := last
	for order := range orders(width(f)) {
		for mask := range f {
			n := twinNumber(f, mask, order)
			least = min(least, n, last-n)
		}
	}
	g := make([]bool, len(f))
	for x := range g {
		g[len(g)-1-x] = least>>x&1 == 1
	}
	return g, api.OK
}
