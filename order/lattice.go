package order

import (
	"stadda/api"
	"stadda/bitset"
)

// none is in place of an element that does not exist.
const none = -1

// lattice is an order with its tables of joins and of meets.
type lattice struct {
	poset
	joins, meets [][]int
}

// above is the set of the elements that are at least all of the set.
func (o poset) above(set int) int {
	common := o.all()
	for x := range bitset.Elements(set) {
		common &= o.up[x]
	}
	return common
}

// least is the element of the set that is at most all others of it, or none.
func (o poset) least(set int) int {
	for x := range bitset.Elements(set) {
		if set&^o.up[x] == 0 {
			return x
		}
	}
	return none
}

// join is the join of x and y, or none.
func (o poset) join(x, y int) int {
	return o.least(o.up[x] & o.up[y])
}

// tables are the order with its joins and meets, which may be none.
func (o poset) tables() lattice {
	return lattice{o, square(o.n, o.join), square(o.n, o.dual().join)}
}

// gap are the first x < y without a join or without a meet, and true, or false if there are none.
func (l lattice) gap() (int, int, bool) {
	for x := range l.n {
		for y := x + 1; y < l.n; y++ {
			if l.joins[x][y] == none || l.meets[x][y] == none {
				return x, y, true
			}
		}
	}
	return 0, 0, false
}

// readLattice is the lattice of the table.
func readLattice(p Table) (lattice, api.Errno) {
	o, e := read(p)
	if e != api.OK {
		return lattice{}, e
	}
	l := o.tables()
	if _, _, found := l.gap(); found {
		return lattice{}, api.ErrLattice
	}
	return l, api.OK
}

// Lattice are the tables of joins and of meets and true, or false if p is no lattice.
func Lattice(p Table) ([][]int, [][]int, bool, api.Errno) {
	l, e := readLattice(p)
	if e == api.ErrLattice {
		return nil, nil, false, api.OK
	}
	return l.joins, l.meets, e == api.OK, e
}

// Gap are the first two elements without a join or without a meet and true, or false if p is a lattice.
func Gap(p Table) (int, int, bool, api.Errno) {
	o, e := read(p)
	if e != api.OK {
		return 0, 0, false, e
	}
	x, y, found := o.tables().gap()
	return x, y, found, api.OK
}

// joinElements are the join elements.
func (l lattice) joinElements() []int {
	var list []int
	for y := range l.n {
		below := 0
		for x := range l.n {
			if l.rightBelow(x, y) {
				below++
			}
		}
		if below == 1 {
			list = append(list, y)
		}
	}
	return list
}

// JoinElements are the join elements.
func JoinElements(p Table) ([]int, api.Errno) {
	l, e := readLattice(p)
	if e != api.OK {
		return nil, e
	}
	return l.joinElements(), api.OK
}

// isDistributive tells whether the lattice is distributive.
func (l lattice) isDistributive() bool {
	for x := range l.n {
		for y := range l.n {
			for z := range l.n {
				if l.meets[x][l.joins[y][z]] != l.joins[l.meets[x][y]][l.meets[x][z]] {
					return false
				}
			}
		}
	}
	return true
}

// Birkhoff is for each element the set of the numbers of the join elements that are at most it.
func Birkhoff(p Table) ([]int, api.Errno) {
	l, e := readLattice(p)
	if e != api.OK {
		return nil, e
	}
	if !l.isDistributive() {
		return nil, api.ErrLattice
	}
	sets := make([]int, l.n)
	for k, join := range l.joinElements() {
		for x := range bitset.Elements(l.up[join]) {
			sets[x] |= 1 << k
		}
	}
	return sets, api.OK
}

// Crosscut is for k = 0, 1, .. how many sets of k atoms have the greatest element as their join.
func Crosscut(p Table) ([]int64, api.Errno) {
	l, e := readLattice(p)
	if e != api.OK {
		return nil, e
	}
	least, greatest := l.least(l.all()), l.dual().least(l.all())
	atoms := 0
	for x := range l.n {
		if l.rightBelow(least, x) {
			atoms |= 1 << x
		}
	}
	list := make([]int64, bitset.Count(atoms)+1)
	for set := range bitset.Within(atoms) {
		if l.least(l.above(set)) == greatest {
			list[bitset.Count(set)]++
		}
	}
	return list, api.OK
}
