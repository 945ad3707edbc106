package shat

import "stadda/api"

// Crossing are the first two sets that have no common element, or true if there are none.
func Crossing(n int, l []int) (int, int, bool, api.Errno) {
	if e := Check(n, l); e != api.OK {
		return 0, 0, false, e
	}
	if i, k, found := firstPair(len(l), func(i, k int) bool { return l[i]&l[k] == 0 }); found {
		return l[i], l[k], false, api.OK
	}
	return 0, 0, true, api.OK
}

// crossedBy tells whether s has an element in common with each set of the family.
func (f *marks) crossedBy(s int) bool {
	for t, is := range f {
		if is && s&t == 0 {
			return false
		}
	}
	return true
}

// Extend is a crossing family of 2^(n-1) sets that has all of l.
func Extend(n int, l []int) ([]int, api.Errno) {
	_, _, ok, e := Crossing(n, l)
	if e != api.OK {
		return nil, e
	}
	if n == 0 || !ok {
		return nil, api.ErrNone
	}
	// In the end one of each two sets that make up the whole is there: were both refused, there would be a set within each of them, and these two would not cross.
	f := marked(l)
	for s := 1; s < 1<<n; s++ {
		f[s] = f.crossedBy(s)
	}
	return f.list(), api.OK
}

// Antichain are the first two sets of which the first one is within the other, or true if there are none.
func Antichain(n int, l []int) (int, int, bool, api.Errno) {
	if e := Check(n, l); e != api.OK {
		return 0, 0, false, e
	}
	if i, k, found := firstPair(len(l), func(i, k int) bool { return i != k && l[i]&l[k] == l[i] }); found {
		return l[i], l[k], false, api.OK
	}
	return 0, 0, true, api.OK
}
