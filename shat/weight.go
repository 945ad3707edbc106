package shat

import (
	"stadda/api"
	"stadda/bitset"
	"stadda/num"
)

// maxPairs is how many pairs there are at most.
const maxPairs = 100

// choose is C(n, k).
func choose(n, k int) int {
	c := 1
	for i := range k {
		c = c * (n - i) / (i + 1)
	}
	return c
}

// reciprocals is the sum of 1 / C(n, k) over all n, k of the list. No number is too large or 0 on the way: n is at most 10, and so the denominators divide 2520.
func reciprocals(list [][2]int) num.Rat {
	var sum num.Rat
	for _, l := range list {
		r, _ := num.Make(1, int64(choose(l[0], l[1])))
		sum, _ = sum.Add(r)
	}
	return sum
}

// Lubell is the sum of 1 / C(n, |s|) over all sets s.
func Lubell(n int, l []int) (num.Rat, api.Errno) {
	if e := Check(n, l); e != api.OK {
		return num.Rat{}, e
	}
	var list [][2]int
	for _, s := range l {
		list = append(list, [2]int{n, bitset.Count(s)})
	}
	return reciprocals(list), api.OK
}

// checkPairs tells whether these are pairs of sets without a common element, and not too many.
func checkPairs(pairs [][2]int) api.Errno {
	if len(pairs) > maxPairs {
		return api.ErrLong
	}
	for _, p := range pairs {
		if min(p[0], p[1]) < 0 || max(p[0], p[1]) >= 1<<maxElements || p[0]&p[1] != 0 {
			return api.ErrArg
		}
	}
	return api.OK
}

// Cross are the first two indices of pairs that do not cross, or true if there are none.
func Cross(pairs [][2]int) (int, int, bool, api.Errno) {
	if e := checkPairs(pairs); e != api.OK {
		return 0, 0, false, e
	}
	i, k, found := firstPair(len(pairs), func(i, k int) bool {
		p, q := pairs[i], pairs[k]
		return i != k && (p[0]&q[1] == 0 || q[0]&p[1] == 0)
	})
	return i, k, !found, api.OK
}

// Weight is the weight of the pairs.
func Weight(pairs [][2]int) (num.Rat, api.Errno) {
	if e := checkPairs(pairs); e != api.OK {
		return num.Rat{}, e
	}
	var list [][2]int
	for _, p := range pairs {
		list = append(list, [2]int{bitset.Count(p[0]) + bitset.Count(p[1]), bitset.Count(p[0])})
	}
	return reciprocals(list), api.OK
}
