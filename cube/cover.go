package cube

import (
	"math/bits"
	"slices"

	"stadda/api"
	"stadda/bitset"
)

// maxCoverSize is how many elements a table has at most for which a cover is made.
const maxCoverSize = 16

// isPrime tells whether f is true at all numbers of the part, and not so if its mask loses a bit.
func (p part) isPrime(f []bool) bool {
	if !p.has(f, true) {
		return false
	}
	for bit := 1; bit < len(f); bit *= 2 {
		if p.mask&bit != 0 && (part{p.mask &^ bit, p.value &^ bit}).has(f, true) {
			return false
		}
	}
	return true
}

// Primes are all prime implicants of f.
func Primes(f []bool) ([][2]int, api.Errno) {
	if e := Check(f); e != api.OK {
		return nil, e
	}
	var list [][2]int
	for mask := range f {
		for value := range bitset.Within(mask) {
			if (part{mask, value}).isPrime(f) {
				list = append(list, [2]int{mask, value})
			}
		}
	}
	return list, api.OK
}

// marks are the numbers of the implicants, as the bits of one number.
func marks(size int, implicants ...[2]int) uint64 {
	var all uint64
	for _, i := range implicants {
		for x := range (part{i[0], i[1]}).numbers(size) {
			all |= 1 << x
		}
	}
	return all
}

// Cover is a cover of f of as few implicants as possible. Prime ones are enough.
func Cover(f []bool) ([][2]int, api.Errno) {
	primes, e := Primes(f)
	if e != api.OK {
		return nil, e
	}
	if len(f) > maxCoverSize {
		return nil, api.ErrLong
	}
	all := marks(len(f), primes...)
	var cover [][2]int
search:
	for size := range len(primes) + 1 {
		for chosen := range 1 << len(primes) { // at most 13 of them
			if bitset.Count(chosen) != size {
				continue
			}
			cover = cover[:0]
			for rest := uint(chosen); rest != 0; rest &= rest - 1 {
				cover = append(cover, primes[bits.TrailingZeros(rest)])
			}
			if marks(len(f), cover...) == all {
				break search
			}
		}
	}
	return cover, api.OK
}

// IsCover tells whether l is a cover of f.
func IsCover(f []bool, l [][2]int) bool {
	if Check(f) != api.OK {
		return false
	}
	for i, pair := range l {
		p := part{pair[0], pair[1]}
		if i > 0 && slices.Compare(l[i-1][:], pair[:]) >= 0 || p.mask < 0 || p.mask >= len(f) || p.value&^p.mask != 0 || !p.has(f, true) {
			return false
		}
	}
	covered := marks(len(f), l...)
	for x, is := range f {
		if is && covered>>x&1 == 0 {
			return false
		}
	}
	return true
}
