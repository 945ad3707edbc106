package order

import (
	"stadda/api"
	"stadda/bitset"
)

// Completion are the elements of the completion, its order, and for each element the index of its place.
func Completion(p Table) ([]int, Table, []int, api.Errno) {
	o, e := read(p)
	if e != api.OK {
		return nil, nil, nil, e
	}
	var elements []int
	index := map[int]int{}
	for set := range bitset.Within(o.all()) {
		if o.dual().above(o.above(set)) == set {
			index[set] = len(elements)
			elements = append(elements, set)
		}
	}
	places := make([]int, o.n)
	for x := range places {
		places[x] = index[o.down[x]]
	}
	return elements, inclusion(elements), places, api.OK
}
