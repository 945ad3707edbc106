package sort

import (
	"slices"

	"stadda/api"
)

// words have a bit for each pattern of the most wires that there can be.
type words [1 << maxWires / 64]uint64

// board has the value of each wire in each pattern, so that a comparator is done for 64 patterns by two operations.
type board [maxWires]words

// every is the board on which all patterns of n wires come in.
func every(n int) board {
	var b board
	for pattern := range 1 << n {
		for wire := range n {
			b[wire][pattern/64] |= uint64(pattern>>wire&1) << (pattern % 64)
		}
	}
	return b
}

// through is the board on which they come out.
func through(n int, net []comparator) board {
	b := every(n)
	for _, c := range net {
		b.settle(c)
	}
	return b
}

// settle does a comparator in all patterns, and tells whether it exchanged anything in one of them.
func (b *board) settle(c comparator) bool {
	former, latter := b[c.lesser], b[c.greater]
	for i := range former {
		b[c.lesser][i] = former[i] & latter[i]
		b[c.greater][i] = former[i] | latter[i]
	}
	return b[c.lesser] != former
}

// value is that of a wire, 0 or 1, in what was that pattern when it came in.
func (b *board) value(wire, pattern int) int {
	return int(b[wire][pattern/64] >> (pattern % 64) & 1)
}

// Fails is the least pattern that comes out out of order, and whether there is one.
func Fails(n int, l [][2]int) (int, bool, api.Errno) {
	net, e := network(n, l)
	if e != api.OK {
		return 0, false, e
	}
	out := through(n, net)
	least, fails := 0, false
search:
	for pattern := range 1 << n {
		for wire := range n - 1 {
			if out.value(wire, pattern) > out.value(wire+1, pattern) {
				least, fails = pattern, true
				break search
			}
		}
	}
	return least, fails, api.OK
}

// Outputs are the patterns that come out.
func Outputs(n int, l [][2]int) ([]int, api.Errno) {
	net, e := network(n, l)
	if e != api.OK {
		return nil, e
	}
	out := through(n, net)
	list := make([]int, 1<<n)
	for pattern := range list {
		for wire := range n {
			list[pattern] |= out.value(wire, pattern) << wire
		}
	}
	slices.Sort(list)
	return slices.Compact(list), api.OK
}

// Idle are the indices of the comparators that exchange nothing. Patterns are enough to find the others: one that exchanges two values exchanges 1 and 0 if what is at least the greater one comes in as 1, and all else as 0.
func Idle(n int, l [][2]int) ([]int, api.Errno) {
	net, e := network(n, l)
	if e != api.OK {
		return nil, e
	}
	var list []int
	b := every(n)
	for i, c := range net {
		if !b.settle(c) {
			list = append(list, i)
		}
	}
	return list, api.OK
}
