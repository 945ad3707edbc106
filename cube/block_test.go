package cube_test

import (
	"slices"
	"testing"

	"stadda/api"
	"stadda/chance"
	"stadda/cube"
)

// P7.1: Sensitivity. P7.2: Blocks, IsBlocks. P7.3: Influence, Rising.

// sensitivityOf is the sensitivity by the definition.
func sensitivityOf(f []bool) int {
	most := 0
	for x := range f {
		n := 0
		for y := range f {
			if ones(x^y) == 1 && f[x] != f[y] {
				n++
			}
		}
		most = max(most, n)
	}
	return most
}

// mostBlocks is the greatest number of blocks at x without the bits used: the first bit that is left is in one of them, or it is of no use.
func mostBlocks(f []bool, x, used int) int {
	bit := 1
	for used&bit != 0 {
		bit *= 2
	}
	if bit >= len(f) {
		return 0
	}
	most := mostBlocks(f, x, used|bit)
	for block := bit; block < len(f); block++ {
		if block&bit != 0 && block&used == 0 && f[x] != f[x^block] {
			most = max(most, 1+mostBlocks(f, x, used|block))
		}
	}
	return most
}

// areBlocks tells whether l are blocks at x by the definition.
func areBlocks(f []bool, x int, l []int) bool {
	if x < 0 || x >= len(f) {
		return false
	}
	for i, block := range l {
		if block < 1 || block >= len(f) || f[x] == f[x^block] || i > 0 && block <= l[i-1] {
			return false
		}
		for _, other := range l[:i] {
			if other&block != 0 {
				return false
			}
		}
	}
	return true
}

func TestSensitivityAndBlocks(t *testing.T) {
	apart := 0
	for _, f := range functions(721, 6, 300) {
		sense := sensitivityOf(f)
		if n := got(t, "Sensitivity", f, cube.Sensitivity); n != sense {
			t.Errorf("Sensitivity of %s: %d instead of %d", text(f), n, sense)
		}
		want := 0
		for x := range f {
			want = max(want, mostBlocks(f, x, 0))
		}
		x, l := blocks(t, f)
		if len(l) != want || !areBlocks(f, x, l) || !cube.IsBlocks(f, x, l) {
			t.Errorf("Blocks of %s: %d, %v, there are %d", text(f), x, l, want)
		}
		if sense != want {
			apart++
		}
	}
	if apart < 30 {
		t.Errorf("%d functions with more blocks than sensitive bits", apart)
	}
}

func TestKnownSensitivity(t *testing.T) {
	for _, x := range []struct {
		f             string
		sense, blocks int
	}{
		{"0", 0, 0}, {"1", 0, 0}, {"00", 0, 0}, {"11", 0, 0}, {"01", 1, 1}, {"10", 1, 1}, {"0110", 2, 2}, {"0001", 2, 2}, {"0111", 2, 2}, {"0011", 1, 1}, {"00010111", 2, 2}, {"01111110", 3, 3}, {"10000001", 3, 3},
		{"1101000110001011", 2, 3}, // the four bits are in order, one way or the other
	} {
		f := table(x.f)
		at, l := blocks(t, f)
		if n := got(t, "Sensitivity", f, cube.Sensitivity); n != x.sense || len(l) != x.blocks || !areBlocks(f, at, l) {
			t.Errorf("%s: %d; %d, %v", x.f, n, at, l)
		}
	}
	for n := range 7 {
		for _, f := range [][]bool{where(n, func(x int) bool { return ones(x)%2 == 1 }), where(n, func(x int) bool { return x == 0 }), where(n, func(x int) bool { return x == 1<<n-1 })} {
			if x, l := blocks(t, f); len(l) != n || got(t, "Sensitivity", f, cube.Sensitivity) != n {
				t.Errorf("%s: %d, %v", text(f), x, l)
			}
		}
		for _, is := range []bool{false, true} {
			f := where(n, func(int) bool { return is })
			if x, l := blocks(t, f); x < 0 || x >= len(f) || len(l) != 0 || got(t, "Sensitivity", f, cube.Sensitivity) != 0 {
				t.Errorf("%s: %d, %v", text(f), x, l)
			}
		}
	}
}

func TestIsBlocks(t *testing.T) {
	want := func(f []bool, x int, l ...int) {
		t.Helper()
		before := slices.Clone(l)
		if is := cube.IsBlocks(f, x, l); is != areBlocks(f, x, l) || !slices.Equal(l, before) {
			t.Errorf("IsBlocks of %s at %d, %v: %t", text(f), x, l, is)
		}
	}
	for _, f := range small(2) {
		for x := -1; x <= len(f); x++ {
			want(f, x)
			for i := -1; i <= len(f); i++ {
				want(f, x, i)
				for j := -1; j <= len(f); j++ {
					want(f, x, i, j)
					want(f, x, j, i, i+j)
				}
			}
		}
	}
	s := chance.Source(722)
	for _, f := range some(723, 3, 6, 500) {
		for range 20 {
			x := s.Below(len(f))
			want(f, x)
			a, b, c := s.Below(len(f)), s.Below(len(f)), s.Below(len(f))
			b &^= a
			c &^= a | b
			want(f, x, a, b, c)
			want(f, x, min(a, b), max(a, b))
			want(f, x, max(a, b), min(a, b))
			want(f, x, a, a)
			want(f, x, min(a, b), max(a, b), max(a, b)|c)
			for _, n := range extremes {
				want(f, n)
				want(f, n, a)
				want(f, x, n)
				want(f, x, a, n)
				want(f, x, n, a)
				want(f, x, a+n)
			}
		}
		x, l := blocks(t, f)
		for i := range l {
			want(f, x, l[i:]...)
			want(f, x, append(slices.Clone(l), l[i])...)
			want(f, x, append(slices.Clone(l), 0)...)
			want(f, x, append([]int{0}, l...)...)
			want(f, x, append(slices.Clone(l), len(f)+l[i])...)
			want(f, x^l[i], l...)
			slices.Reverse(l)
			want(f, x, l...)
			slices.Reverse(l)
		}
	}
	long := make([]int, 1_000_000)
	for i := range long {
		long[i] = i + 1
	}
	want(where(6, func(x int) bool { return ones(x)%2 == 1 }), 0, long...)
}

func TestInfluence(t *testing.T) {
	for _, f := range functions(724, 6, 300) {
		for bit := range width(f) {
			want := 0
			for x := range f {
				if x>>bit&1 == 0 && f[x] != f[x+1<<bit] {
					want += 2
				}
			}
			if n, e := cube.Influence(f, bit); n != want || e != api.OK {
				t.Errorf("Influence of %s, %d: %d, %d instead of %d", text(f), bit, n, e, want)
			}
		}
		for _, bit := range append([]int{-1, -2, width(f), width(f) + 1, len(f)}, extremes...) {
			if bit < 0 || bit >= width(f) {
				if n, e := cube.Influence(f, bit); n != 0 || e != api.ErrArg {
					t.Errorf("Influence of %s, %d: %d, %d", text(f), bit, n, e)
				}
			}
		}
	}
}

// isRising is what Rising returns by the definition.
func isRising(f []bool) (int, int, bool) {
	for x := range f {
		for i := 0; 1<<i < len(f); i++ {
			y := x
			if x>>i&1 == 0 {
				y += 1 << i
			}
			if f[x] && !f[y] {
				return x, i, false
			}
		}
	}
	return 0, 0, true
}

func TestRising(t *testing.T) {
	count := make([]int, 5)
	for _, f := range slices.Concat(small(4), known(6), some(725, 5, 6, 300)) {
		wantX, wantBit, want := isRising(f)
		x, bit, is, e := cube.Rising(f)
		if x != wantX || bit != wantBit || is != want || e != api.OK {
			t.Errorf("Rising of %s: %d, %d, %t, %d instead of %d, %d, %t", text(f), x, bit, is, e, wantX, wantBit, want)
		}
		if is && width(f) < 4 {
			count[width(f)]++
		}
	}
	if count[0] < 2 || count[1] < 3 || count[2] < 6 || count[3] < 20 { // Dedekind's numbers
		t.Errorf("rising functions: %v", count)
	}
	for _, x := range []struct {
		f      string
		x, bit int
		is     bool
	}{
		{"1000", 0, 0, false}, {"0100", 1, 1, false}, {"0010", 2, 0, false}, {"1011", 0, 0, false}, {"1101", 0, 1, false}, {"0111", 0, 0, true}, {"0001", 0, 0, true}, {"1111", 0, 0, true}, {"00100111", 2, 0, false}, {"01010100", 3, 2, false}, {"01110001", 1, 2, false},
	} {
		if at, bit, is, e := cube.Rising(table(x.f)); at != x.x || bit != x.bit || is != x.is || e != api.OK {
			t.Errorf("Rising of %s: %d, %d, %t, %d", x.f, at, bit, is, e)
		}
	}
}

// R4: the table is left as it is, results are new.
func TestBlocksAreNew(t *testing.T) {
	for _, f := range functions(726, 6, 50) {
		spare := append(slices.Clone(f), true, false)
		x, l := blocks(t, spare[:len(f)])
		before := slices.Clone(l)
		_ = append(l, 0)
		clear(l)
		if y, again := blocks(t, spare[:len(f)]); x != y || !slices.Equal(again, before) || text(spare) != text(f)+"10" {
			t.Errorf("Blocks of %s, later: %d, %v instead of %d, %v", text(f), y, again, x, before)
		}
	}
}
