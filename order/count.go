package order

import (
	"iter"

	"stadda/api"
	"stadda/bitset"
)

// maxValue is how great the numbers that are summed may be.
const maxValue = 1_000_000_000

// counts are numbers of the elements of an order.
type counts [maxElements]int64

// sum is the sum of the values of the elements of a set.
func sum[T int | int64](set int, values []T) T {
	var all T
	for x := range bitset.Elements(set) {
		all += values[x]
	}
	return all
}

// Moebius are the numbers of Moebius.
func Moebius(p Table) ([][]int, api.Errno) {
	o, e := read(p)
	if e != api.OK {
		return nil, e
	}
	mu := make([][]int, o.n)
	for x := range mu {
		mu[x] = make([]int, o.n)
		for _, y := range o.rising() {
			if x == y {
				mu[x][y] = 1
			} else {
				mu[x][y] = -sum(o.interval(x, y), mu[x]) // at y, there is still 0
			}
		}
	}
	return mu, api.OK
}

// readValues is the order of the table, if the values are some for it.
func readValues(p Table, values []int64) (poset, api.Errno) {
	o, e := read(p)
	if e != api.OK {
		return poset{}, e
	}
	if len(values) != o.n {
		return poset{}, api.ErrShape
	}
	for _, v := range values {
		if v < -maxValue || v > maxValue {
			return poset{}, api.ErrArg
		}
	}
	return o, api.OK
}

// Sums are for each element the sum of f over all that are at most it.
func Sums(p Table, f []int64) ([]int64, api.Errno) {
	o, e := readValues(p, f)
	if e != api.OK {
		return nil, e
	}
	g := make([]int64, o.n)
	for y := range g {
		g[y] = sum(o.down[y], f)
	}
	return g, api.OK
}

// Differences are what has g as its sums.
func Differences(p Table, g []int64) ([]int64, api.Errno) {
	o, e := readValues(p, g)
	if e != api.OK {
		return nil, e
	}
	f := make([]int64, o.n)
	for _, y := range o.rising() {
		f[y] = g[y] - sum(o.down[y], f) // at y, there is still 0
	}
	return f, api.OK
}

// chains yields the numbers of chains from x to y of length 0, 1, .., up to the greatest there is.
func (o poset) chains(x, y int) iter.Seq[int64] {
	return func(yield func(int64) bool) {
		interval := o.interval(x, y)
		var ends counts // the chains of one length from x within the interval, by their last elements
		if interval != 0 {
			ends[x] = 1
		}
		for ends != (counts{}) && yield(ends[y]) { // each chain goes on to y: none is longer than those to y
			var longer counts
			for z := range bitset.Elements(interval) {
				longer[z] = sum(o.down[z]&^(1<<z), ends[:])
			}
			ends = longer
		}
	}
}

// Chains are the numbers of chains from x to y of length 0, 1, .., up to the greatest there is.
func Chains(p Table, x, y int) ([]int64, api.Errno) {
	o, e := read(p)
	if e != api.OK {
		return nil, e
	}
	if !o.has(x) || !o.has(y) {
		return nil, api.ErrArg
	}
	var list []int64
	for count := range o.chains(x, y) {
		list = append(list, count)
	}
	return list, api.OK
}

// Euler is the number of chains with an odd number of elements less that of those with an even one.
func Euler(p Table) (int64, api.Errno) {
	o, e := read(p)
	if e != api.OK {
		return 0, e
	}
	var all int64
	for x := range o.n {
		for y := range o.n {
			sign := int64(1) // a chain of length 0 is one element
			for count := range o.chains(x, y) {
				all += sign * count
				sign = -sign
			}
		}
	}
	return all, api.OK
}
