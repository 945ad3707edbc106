package heap

import (
	"iter"
	"slices"

	"stadda/api"
)

const (
	maxHeap    = 2000 // the greatest heap
	valueBound = 2048 // above all values: that of a heap is at most the heap, as no play has more moves, and sums without carry have no more digits
)

// row are the values of the heaps from 0 on.
type row []int

// at is the value of a position, by its heaps.
func (r row) at(heaps ...int) int {
	sum := 0
	for _, n := range heaps {
		sum ^= r[n]
	}
	return sum
}

// next is the value of the heap that comes after the row.
func (r row) next(c code) int {
	var met [valueBound]bool
	for part, rest := range c.moves(len(r)) {
		met[r.at(part, rest)] = true
	}
	return slices.Index(met[:], false)
}

// values yields the values of the heaps from 0 to the greatest.
func (c code) values() iter.Seq[int] {
	return func(yield func(int) bool) {
		var known row
		for len(known) <= maxHeap {
			value := known.next(c)
			if !yield(value) {
				return
			}
			known = append(known, value)
		}
	}
}

// row are the values of the heaps of 0 to most.
func (c code) row(most int) row {
	var r row
	for value := range c.values() {
		r = append(r, value)
		if len(r) > most {
			break
		}
	}
	return r
}

// Values are the values of the heaps of 0 to most.
func Values(code string, most int) ([]int, api.Errno) {
	c, e := read(code)
	if e != api.OK {
		return nil, e
	}
	if most < 0 || most > maxHeap {
		return nil, api.ErrArg
	}
	return c.row(most), api.OK
}
