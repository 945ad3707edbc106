package shat

import (
	"stadda/api"
	"stadda/bitset"
)

// trace marks the common parts of m and the sets.
func trace(l []int, m int) marks {
	var t marks
	for _, s := range l {
		t[s&m] = true
	}
	return t
}

// Trace is the trace of the family on m.
func Trace(n int, l []int, m int) ([]int, api.Errno) {
	if e := Check(n, l); e != api.OK {
		return nil, e
	}
	if m < 0 || m >= 1<<n {
		return nil, api.ErrArg
	}
	t := trace(l, m)
	return t.list(), api.OK
}

// shatters tells whether m is shattered.
func shatters(l []int, m int) bool {
	t := trace(l, m)
	for part := range bitset.Within(m) {
		if !t[part] {
			return false
		}
	}
	return true
}

// Shattered are all shattered sets.
func Shattered(n int, l []int) ([]int, api.Errno) {
	if e := Check(n, l); e != api.OK {
		return nil, e
	}
	var list []int
	for m := range 1 << n {
		if shatters(l, m) {
			list = append(list, m)
		}
	}
	return list, api.OK
}

// Dimension is the dimension of the family and the least shattered set with so many elements.
func Dimension(n int, l []int) (int, int, api.Errno) {
	list, e := Shattered(n, l)
	if e != api.OK {
		return 0, 0, e
	}
	dimension, at := -1, 0
	for _, m := range list {
		if size := bitset.Count(m); size > dimension {
			dimension, at = size, m
		}
	}
	return dimension, at, api.OK
}
