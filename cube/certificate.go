package cube

import (
	"stadda/api"
	"stadda/bitset"
)

// certificate is the first of the certificates at x that have the fewest bits.
func certificate(f []bool, x int) int {
	best := len(f) - 1
	for mask := range f {
		if bitset.Count(mask) < bitset.Count(best) && (part{mask, x & mask}).has(f, f[x]) {
			best = mask
		}
	}
	return best
}

// Certificate is the first of the certificates at x that have the fewest bits.
func Certificate(f []bool, x int) (int, api.Errno) {
	if e := Check(f); e != api.OK {
		return 0, e
	}
	if x < 0 || x >= len(f) {
		return 0, api.ErrArg
	}
	return certificate(f, x), api.OK
}

// Certificates is the certificate size of f.
func Certificates(f []bool) (int, api.Errno) {
	if e := Check(f); e != api.OK {
		return 0, e
	}
	size := 0
	for x := range f {
		size = max(size, bitset.Count(certificate(f, x)))
	}
	return size, api.OK
}
