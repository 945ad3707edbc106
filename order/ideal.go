package order

import (
	"stadda/api"
	"stadda/bitset"
)

// isIdeal tells whether the set has with each element all that are below it.
func (o poset) isIdeal(set int) bool {
	for x := range bitset.Elements(set) {
		if o.down[x]&^set != 0 {
			return false
		}
	}
	return true
}

// Ideals are all ideals.
func Ideals(p Table) ([]int, api.Errno) {
	o, e := read(p)
	if e != api.OK {
		return nil, e
	}
	var list []int
	for set := range bitset.Within(o.all()) {
		if o.isIdeal(set) {
			list = append(list, set)
		}
	}
	return list, api.OK
}

// inclusion is the order of the sets in which one is at most another one if it is within it.
func inclusion(sets []int) Table {
	return square(len(sets), func(x, y int) bool { return sets[x]&^sets[y] == 0 })
}

// IdealOrder is the order of the ideals.
func IdealOrder(p Table) (Table, api.Errno) {
	ideals, e := Ideals(p)
	if e != api.OK {
		return nil, e
	}
	if len(ideals) > maxElements {
		return nil, api.ErrArg
	}
	return inclusion(ideals), api.OK
}

// Linear is in how many orders all elements can be listed such that none comes before one that is below it.
func Linear(p Table) (int64, api.Errno) {
	ideals, e := Ideals(p)
	if e != api.OK {
		return 0, e
	}
	ways := map[int]int64{0: 1} // by the ideals that are listed; there is none for other sets
	for _, ideal := range ideals[1:] {
		for last := range bitset.Elements(ideal) {
			ways[ideal] += ways[ideal&^(1<<last)]
		}
	}
	return ways[ideals[len(ideals)-1]], api.OK
}
