package order

import (
	"stadda/api"
	"stadda/bitset"
)

// keeps tells whether the map f keeps the order.
func (o poset) keeps(f []int) bool {
	for x := range o.n {
		for y := range bitset.Elements(o.up[x]) {
			if !o.atMost(f[x], f[y]) {
				return false
			}
		}
	}
	return true
}

// Fixed are the fixed elements of the map f.
func Fixed(p Table, f []int) ([]int, api.Errno) {
	o, e := read(p)
	if e != api.OK {
		return nil, e
	}
	if len(f) != o.n {
		return nil, api.ErrShape
	}
	for _, x := range f {
		if !o.has(x) {
			return nil, api.ErrArg
		}
	}
	if !o.keeps(f) {
		return nil, api.ErrMap
	}
	var list []int
	for x, y := range f {
		if x == y {
			list = append(list, x)
		}
	}
	return list, api.OK
}
