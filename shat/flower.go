package shat

import "stadda/api"

// Flowers of so many sets are searched at most, among so many sets.
const (
	maxFlower     = 5
	maxFlowerSets = 60
)

// fits tells whether the flower with s is one, too. It is if s has with all other sets together just what these have in common.
func fits(flower []int, s int) bool {
	return len(flower) < 2 || s&union(flower...) == flower[0]&flower[1]
}

// firstFlower is the first flower of k sets, with no set if there is none.
func firstFlower(l []int, k int) []int {
	var places, flower []int // a set of the flower is that of l at its place
	grow := func(from int) bool {
		for i := from; i < len(l); i++ {
			if fits(flower, l[i]) {
				places, flower = append(places, i), append(flower, l[i])
				return true
			}
		}
		return false
	}
	from := 0
search:
	for len(flower) < k {
		for !grow(from) {
			last := len(flower) - 1
			if last < 0 {
				break search
			}
			from = places[last] + 1
			places, flower = places[:last], flower[:last]
		}
		from = places[len(places)-1] + 1
	}
	return flower
}

// Flower is the first flower of k sets, or false if there is none.
func Flower(n int, l []int, k int) ([]int, bool, api.Errno) {
	if e := Check(n, l); e != api.OK {
		return nil, false, e
	}
	if k < 1 || k > maxFlower {
		return nil, false, api.ErrArg
	}
	if len(l) > maxFlowerSets {
		return nil, false, api.ErrLong
	}
	flower := firstFlower(l, k)
	return flower, len(flower) > 0, api.OK
}

// IsFlower tells whether flower is a flower of sets of the family.
func IsFlower(n int, l, flower []int) bool {
	if Check(n, l) != api.OK || Check(n, flower) != api.OK {
		return false
	}
	f := marked(l)
	for i, s := range flower {
		if !f[s] || !fits(flower[:i], s) {
			return false
		}
	}
	return len(flower) > 0
}
