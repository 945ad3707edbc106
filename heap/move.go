package heap

import (
	"slices"

	"stadda/api"
)

// The limits of a position from which moves are asked for.
const (
	maxHeaps    = 10
	maxMoveHeap = 200
)

// Moves are the positions with the value 0 to which one move leads.
func Moves(code string, heaps []int) ([][]int, api.Errno) {
	c, e := read(code)
	if e != api.OK {
		return nil, e
	}
	if len(heaps) > maxHeaps {
		return nil, api.ErrLong
	}
	for _, n := range heaps {
		if n < 0 || n > maxMoveHeap {
			return nil, api.ErrArg
		}
	}
	return c.winning(heaps), api.OK
}

// winning are the positions with the value 0 to which one move leads, rising, each once.
func (c code) winning(heaps []int) [][]int {
	r := c.row(maxMoveHeap)
	sum := r.at(heaps...)
	var positions [][]int
	for i, n := range heaps {
		others := sum ^ r.at(n)
		for part, rest := range c.moves(n) {
			if r.at(part, rest) == others {
				positions = append(positions, ordered(heaps[:i], heaps[i+1:], []int{part, rest}))
			}
		}
	}
	slices.SortFunc(positions, slices.Compare)
	return slices.CompactFunc(positions, slices.Equal)
}

// ordered are all the heaps that are not empty, from the least to the greatest.
func ordered(lists ...[]int) []int {
	heaps := slices.Concat(lists...)
	heaps = slices.DeleteFunc(heaps, func(n int) bool { return n == 0 })
	slices.Sort(heaps)
	return heaps
}
