package heap_test

import (
	"math"
	"testing"

	"stadda/api"
	"stadda/chance"
	"stadda/heap"
)

// P6.4: Times, Inverse, Root, Power.

// times is what Times returns.
func times(t *testing.T, a, b int) int {
	t.Helper()
	p, e := heap.Times(a, b)
	if e != api.OK || p < 0 || p > 65535 {
		t.Fatalf("Times of %d and %d: %d, %d", a, b, p, e)
	}
	return p
}

// power is what Power returns.
func power(t *testing.T, a, n int) int {
	t.Helper()
	p, e := heap.Power(a, n)
	if e != api.OK {
		t.Fatalf("Power of %d and %d: %d", a, n, e)
	}
	return p
}

// products are those of the numbers below size, by the definition.
func products(size int) [][]int {
	table := make([][]int, size)
	for a := range table {
		table[a] = make([]int, size)
		for b := range a + 1 {
			there := make([]bool, 2*size*size)
			for x := range a {
				for y := range b {
					there[table[x][b]^table[a][y]^table[x][y]] = true
				}
			}
			p := 0
			for there[p] {
				p++
			}
			table[a][b], table[b][a] = p, p
		}
	}
	return table
}

func TestProductsByTheDefinition(t *testing.T) {
	table := products(100)
	for a, line := range table {
		for b, want := range line {
			if p := times(t, a, b); p != want {
				t.Errorf("Times of %d and %d: %d instead of %d", a, b, p, want)
			}
		}
	}
}

// timesSquare is a times 2^(2^k), bit by bit: a bit 2^i is the product of all 2^(2^j) for which 2^j is part of the sum i.
func timesSquare(a, k int) int {
	sum := 0
	for i := range 16 {
		switch {
		case a>>i&1 == 0:
		case i>>k&1 == 0:
			sum ^= 1 << (i + 1<<k)
		default: // 2^(2^k) twice, which is itself and the half of it
			half := 1 << (i - 1<<k)
			for j := range k {
				half = timesSquare(half, j)
			}
			sum ^= 1<<i ^ half
		}
	}
	return sum
}

// productOf is the product of a and b, bit by bit of b.
func productOf(a, b int) int {
	sum := 0
	for i := range 16 {
		if b>>i&1 == 0 {
			continue
		}
		part := a
		for k := range 4 {
			if i>>k&1 == 1 {
				part = timesSquare(part, k)
			}
		}
		sum ^= part
	}
	return sum
}

func TestProducts(t *testing.T) {
	want := func(a, b int) {
		if p, q := times(t, a, b), productOf(a, b); p != q {
			t.Errorf("Times of %d and %d: %d instead of %d", a, b, p, q)
		}
	}
	for i := range 16 {
		for j := range 16 {
			want(1<<i, 1<<j)
			want(1<<i-1, 1<<j+1)
		}
		want(1<<i, 65535)
		want(65535, 65535-1<<i)
	}
	s := chance.Source(641)
	for range 20_000 {
		want(s.Below(65536), s.Below(65536))
		want(s.Below(65536), s.Below(256))
		want(s.Below(16), s.Below(65536))
	}
}

func TestKnownProducts(t *testing.T) {
	for _, x := range [][3]int{{0, 0, 0}, {0, 65535, 0}, {1, 1, 1}, {1, 65535, 65535}, {2, 2, 3}, {2, 3, 1}, {3, 3, 2}, {4, 4, 6}, {4, 2, 8}, {8, 8, 13}, {16, 15, 240}, {16, 16, 24}, {256, 255, 65280}, {256, 256, 384}} {
		for _, y := range [][2]int{{x[0], x[1]}, {x[1], x[0]}} {
			if p := times(t, y[0], y[1]); p != x[2] {
				t.Errorf("Times of %d and %d: %d instead of %d", y[0], y[1], p, x[2])
			}
		}
	}
}

func TestInversesAndRoots(t *testing.T) {
	for a := range 65536 {
		if r, e := heap.Root(a); r < 0 || r > 65535 || times(t, r, r) != a || e != api.OK {
			t.Errorf("Root of %d: %d, %d", a, r, e)
		}
		b, e := heap.Inverse(a)
		switch {
		case a == 0 && (b != 0 || e != api.ErrNone):
			t.Errorf("Inverse of 0: %d, %d", b, e)
		case a > 0 && (b < 0 || b > 65535 || times(t, a, b) != 1 || e != api.OK):
			t.Errorf("Inverse of %d: %d, %d", a, b, e)
		}
	}
}

func TestPowers(t *testing.T) {
	s := chance.Source(642)
	for i := range 300 {
		a := s.Below(65536)
		if i < 20 {
			a = i
		}
		want := 1
		for n := range 70 {
			if p := power(t, a, n); p != want {
				t.Errorf("Power of %d and %d: %d instead of %d", a, n, p, want)
			}
			want = times(t, want, a)
		}
		if a == 0 {
			continue
		}
		for _, n := range []int{65534, 65535, 65536, 1 << 31, 1 << 32, 1<<32 + 5, 1 << 62, math.MaxInt - 1, math.MaxInt} { // the power 65535 is 1
			if p, q := power(t, a, n), power(t, a, n%65535); p != q {
				t.Errorf("Power of %d and %d: %d instead of %d", a, n, p, q)
			}
		}
	}
	for _, n := range []int{1, 2, 65535, 65536, math.MaxInt} {
		if power(t, 0, n) != 0 || power(t, 1, n) != 1 {
			t.Errorf("Power of 0 and of 1, and %d", n)
		}
	}
	if power(t, 0, 0) != 1 {
		t.Errorf("Power of 0 and 0: %d", power(t, 0, 0))
	}
}

func TestNumbersOutsideTheField(t *testing.T) {
	want := func(p int, e api.Errno) {
		t.Helper()
		if p != 0 || e != api.ErrArg {
			t.Errorf("%d, %d", p, e)
		}
	}
	for _, a := range append([]int{-1, -2, -65536, 65536, 65537, 131072}, extremes...) {
		want(heap.Times(a, 1))
		want(heap.Times(1, a))
		want(heap.Times(0, a))
		want(heap.Times(a, a))
		want(heap.Inverse(a))
		want(heap.Root(a))
		want(heap.Power(a, 1))
		want(heap.Power(a, 0))
		want(heap.Power(a, -1))
	}
	for _, n := range []int{-1, -2, -65535, math.MinInt, math.MinInt + 1} {
		for _, a := range []int{0, 1, 2, 65535} {
			want(heap.Power(a, n))
		}
	}
}
