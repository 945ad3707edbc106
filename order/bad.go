package order

import (
	"stadda/api"
	"stadda/bitset"
)

// isBad tells whether the elements are a bad five.
func (l lattice) isBad(five [5]int) bool {
	o, a, b, c, i := five[0], five[1], five[2], five[3], five[4]
	span := func(x, y int) bool { return l.meets[x][y] == o && l.joins[x][y] == i }
	different := bitset.Count(1<<o|1<<a|1<<b|1<<c|1<<i) == 5
	return different && span(a, c) && span(b, c) && (l.atMost(a, b) || span(a, b))
}

// Bad is a bad five and true, or false if there is none.
func Bad(p Table) ([5]int, bool, api.Errno) {
	l, e := readLattice(p)
	if e != api.OK {
		return [5]int{}, false, e
	}
	var five [5]int
	found := false
search:
	for a := range l.n {
		for b := range l.n {
			for c := range l.n {
				candidate := [5]int{l.meets[a][c], a, b, c, l.joins[a][c]} // no other two can belong to a, b, c
				if l.isBad(candidate) {
					five, found = candidate, true
					break search
				}
			}
		}
	}
	return five, found, api.OK
}

// IsBad tells whether p is a lattice and five is a bad five of it.
func IsBad(p Table, five [5]int) bool {
	l, e := readLattice(p)
	if e != api.OK {
		return false
	}
	for _, x := range five {
		if !l.has(x) {
			return false
		}
	}
	return l.isBad(five)
}
