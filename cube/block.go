package cube

import (
	"stadda/api"
	"stadda/bitset"
)

// sensitive tells whether f has another value at x turned in the mask.
func sensitive(f []bool, x, mask int) bool {
	return f[x] != f[x^mask]
}

// Sensitivity is the sensitivity of f.
func Sensitivity(f []bool) (int, api.Errno) {
	if e := Check(f); e != api.OK {
		return 0, e
	}
	most := 0
	for x := range f {
		here := 0
		for bit := range width(f) {
			if sensitive(f, x, 1<<bit) {
				here++
			}
		}
		most = max(most, here)
	}
	return most, api.OK
}

// mostBlocks are, for each mask, how many blocks at x there are at most within it.
func mostBlocks(f []bool, x int) sums {
	var most sums
	for mask := range f {
		for block := range bitset.Within(mask) {
			if sensitive(f, x, block) {
				most[mask] = max(most[mask], 1+most[mask&^block])
			}
		}
	}
	return most
}

// Blocks are an x and as many blocks at it as there can be.
func Blocks(f []bool) (int, []int, api.Errno) {
	if e := Check(f); e != api.OK {
		return 0, nil, e
	}
	left := len(f) - 1 // the bits of none of the blocks
	at, most := 0, mostBlocks(f, 0)
	for x := range f {
		if here := mostBlocks(f, x); here[left] > most[left] {
			at, most = x, here
		}
	}
	var list []int
	for block := range bitset.Within(left) { // no block that is passed over can be of use later
		if block&^left == 0 && sensitive(f, at, block) && most[left] == 1+most[left&^block] {
			list = append(list, block)
			left &^= block
		}
	}
	return at, list, api.OK
}

// IsBlocks tells whether l are blocks at x.
func IsBlocks(f []bool, x int, l []int) bool {
	if Check(f) != api.OK || x < 0 || x >= len(f) {
		return false
	}
	last, used := 0, 0
	for _, block := range l {
		if block <= last || block >= len(f) || block&used != 0 || !sensitive(f, x, block) {
			return false
		}
		last = block
		used |= block
	}
	return true
}

// Influence is the number of all x at which f is sensitive to the bit.
func Influence(f []bool, bit int) (int, api.Errno) {
	if e := Check(f); e != api.OK {
		return 0, e
	}
	if bit < 0 || bit >= width(f) {
		return 0, api.ErrArg
	}
	n := 0
	for x := range f {
		if sensitive(f, x, 1<<bit) {
			n++
		}
	}
	return n, api.OK
}

// Rising are the first x and bit with which f goes from true to false, or true if there are none.
func Rising(f []bool) (int, int, bool, api.Errno) {
	if e := Check(f); e != api.OK {
		return 0, 0, false, e
	}
	for x := range f {
		for bit := range width(f) {
			if f[x] && !f[x|1<<bit] {
				return x, bit, false, api.OK
			}
		}
	}
	return 0, 0, true, api.OK
}
