// Package bitset is for sets that are numbers, at least 0, whose bits are their elements. Packages cube, shat and order share it.
package bitset

import (
	"iter"
	"math/bits"
)

// Count is the number of elements of a set.
func Count(set int) int {
	return bits.OnesCount(uint(set))
}

// Elements yields the elements of a set, rising.
func Elements(set int) iter.Seq[int] {
	return func(yield func(int) bool) {
		for rest := set; rest != 0 && yield(bits.TrailingZeros(uint(rest))); {
			rest &= rest - 1 // without its least element
		}
	}
}

// Within yields the sets all of whose elements are in the set, rising.
func Within(set int) iter.Seq[int] {
	return func(yield func(int) bool) {
		for part := 0; yield(part) && part != set; {
			part = (part - set) & set // what is not in the set carries over
		}
	}
}
