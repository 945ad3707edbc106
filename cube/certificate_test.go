package cube_test

import (
	"slices"
	"testing"

	"stadda/api"
	"stadda/cube"
)

// P7.1: Certificates. P7.2: Certificate.

// isCertificate tells whether the mask is a certificate at x by the definition.
func isCertificate(f []bool, x, mask int) bool {
	for y := range f {
		if y&mask == x&mask && f[y] != f[x] {
			return false
		}
	}
	return true
}

// masks are all masks of n bits, those with fewer bits first.
func masks(n int) []int {
	var list []int
	for size := range n + 1 {
		for mask := range 1 << n {
			if ones(mask) == size {
				list = append(list, mask)
			}
		}
	}
	return list
}

func TestCertificates(t *testing.T) {
	for _, f := range functions(731, 6, 300) {
		list := masks(width(f))
		size := 0
		for x := range f {
			i := slices.IndexFunc(list, func(mask int) bool { return isCertificate(f, x, mask) })
			if mask, e := cube.Certificate(f, x); mask != list[i] || e != api.OK {
				t.Errorf("Certificate of %s at %d: %d, %d instead of %d", text(f), x, mask, e, list[i])
			}
			size = max(size, ones(list[i]))
		}
		if n := got(t, "Certificates", f, cube.Certificates); n != size {
			t.Errorf("Certificates of %s: %d instead of %d", text(f), n, size)
		}
	}
}

func TestKnownCertificates(t *testing.T) {
	for _, x := range []struct {
		f    string
		at   []int
		size int
	}{
		{"0", []int{0}, 0}, {"1", []int{0}, 0}, {"00", []int{0, 0}, 0}, {"11", []int{0, 0}, 0}, {"01", []int{1, 1}, 1}, {"0001", []int{1, 2, 1, 3}, 2}, {"0111", []int{3, 1, 2, 1}, 2}, {"0110", []int{3, 3, 3, 3}, 2}, {"0011", []int{2, 2, 2, 2}, 1},
		{"00010111", []int{3, 6, 5, 3, 3, 5, 6, 3}, 2}, {"01111110", []int{7, 3, 3, 5, 5, 3, 3, 7}, 3},
	} {
		f := table(x.f)
		for at, want := range x.at {
			if mask, e := cube.Certificate(f, at); mask != want || e != api.OK {
				t.Errorf("Certificate of %s at %d: %d, %d instead of %d", x.f, at, mask, e, want)
			}
		}
		if n := got(t, "Certificates", f, cube.Certificates); n != x.size {
			t.Errorf("Certificates of %s: %d instead of %d", x.f, n, x.size)
		}
	}
	for n := range 7 {
		for _, f := range [][]bool{where(n, func(x int) bool { return ones(x)%2 == 1 }), where(n, func(x int) bool { return x == 0 })} {
			if size := got(t, "Certificates", f, cube.Certificates); size != n {
				t.Errorf("Certificates of %s: %d", text(f), size)
			}
		}
	}
}

func TestNoCertificates(t *testing.T) {
	for _, f := range functions(732, 6, 20) {
		for _, x := range append([]int{-1, -2, -len(f), len(f), len(f) + 1, 2 * len(f)}, extremes...) {
			if x < 0 || x >= len(f) {
				if mask, e := cube.Certificate(f, x); mask != 0 || e != api.ErrArg {
					t.Errorf("Certificate of %s at %d: %d, %d", text(f), x, mask, e)
				}
			}
		}
	}
}
