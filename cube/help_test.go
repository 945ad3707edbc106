package cube_test

import (
	"math"
	"math/bits"
	"slices"
	"testing"

	"stadda/api"
	"stadda/chance"
	"stadda/cube"
)

// extremes are numbers outside of all ranges of this layer.
var extremes = []int{math.MinInt, math.MinInt + 1, math.MinInt / 2, math.MinInt32, -64, 64, 65, 128, 1 << 31, 1 << 32, 1<<32 + 1, 1 << 62, math.MaxInt - 1, math.MaxInt}

// table is the table of a string.
func table(s string) []bool {
	f := make([]bool, len(s))
	for x := range f {
		f[x] = s[x] == '1'
	}
	return f
}

// text is the string of a table.
func text(f []bool) string {
	s := make([]byte, len(f))
	for x := range f {
		s[x] = '0'
		if f[x] {
			s[x] = '1'
		}
	}
	return string(s)
}

// numbered is the table of n bits in which the value at x is the bit x of the number.
func numbered(n int, number uint64) []bool {
	f := make([]bool, 1<<n)
	for x := range f {
		f[x] = number>>x&1 == 1
	}
	return f
}

// where is the table of n bits that is true where is says so.
func where(n int, is func(x int) bool) []bool {
	f := make([]bool, 1<<n)
	for x := range f {
		f[x] = is(x)
	}
	return f
}

// small are all functions of up to n bits.
func small(n int) [][]bool {
	var list [][]bool
	for i := range n + 1 {
		for number := range uint64(1) << (1 << i) {
			list = append(list, numbered(i, number))
		}
	}
	return list
}

// known are functions of up to n bits of which much is known.
func known(n int) [][]bool {
	var list [][]bool
	for i := range n + 1 {
		for k := range i + 1 {
			list = append(list, where(i, func(x int) bool { return bits.OnesCount(uint(x)) >= k }))
			list = append(list, where(i, func(x int) bool { return bits.OnesCount(uint(x)) == k }))
			list = append(list, where(i, func(x int) bool { return x>>k&1 == 1 }))
			list = append(list, where(i, func(x int) bool { return x == 1<<k-1 }))
		}
		list = append(list,
			where(i, func(x int) bool { return bits.OnesCount(uint(x))%2 == 1 }),
			where(i, func(x int) bool { return bits.OnesCount(uint(x))%3 == 1 }),
			where(i, func(x int) bool { return x>>(2+x&3)&1 == 1 }),      // the first bits tell which one counts
			where(i, func(x int) bool { return x&3 == 3 || x&12 == 12 }), // all of one of two pairs
		)
	}
	return list
}

// ordered are functions of n bits, 4 or more, that have more blocks than sensitive bits: the first four of them, some of these turned, are in order, one way or the other.
func ordered(n int) [][]bool {
	var list [][]bool
	for mask := range 16 {
		is := func(x int) bool {
			y := x&15 ^ mask
			return y&(y+1) == 0 || (15-y)&(16-y) == 0
		}
		list = append(list,
			where(n, is),
			where(n, func(x int) bool { return is(x) != (x>>4&1 == 1) }),
			where(n, func(x int) bool { return is(x) && x>>4 == 0 }),
			where(n, func(x int) bool { return is(x) != (x>>4 == 3) }),
		)
	}
	return list
}

// someOf is a function of n bits: about one of so many values is not the most frequent one.
func someOf(s *chance.Source, n, every int) []bool {
	most := s.Below(2) == 0
	return where(n, func(int) bool { return (s.Below(every) == 0) != most })
}

// some are functions of so many bits.
func some(seed chance.Source, from, to, count int) [][]bool {
	var list [][]bool
	for range count {
		list = append(list, someOf(&seed, seed.From(from, to), seed.From(2, 12)))
	}
	return list
}

// functions are all functions of up to three bits, and others of up to n bits.
func functions(seed chance.Source, n, count int) [][]bool {
	return slices.Concat(small(3), known(n), ordered(n-1), ordered(n), some(seed, 4, n, count))
}

// noTables are lists that are no tables.
func noTables() [][]bool {
	list := [][]bool{nil, make([]bool, 0, 4), make([]bool, 64)[:63]}
	for n := range 300 {
		if !slices.Contains([]int{1, 2, 4, 8, 16, 32, 64}, n) {
			list = append(list, make([]bool, n), where(9, func(int) bool { return true })[:n])
		}
	}
	return append(list, make([]bool, 1<<10), make([]bool, 1<<16), make([]bool, 1<<20))
}

// width is the number of bits of which f is a function.
func width(f []bool) int {
	return bits.Len(uint(len(f))) - 1
}

// ones is the number of bits of a mask.
func ones(mask int) int {
	n := 0
	for ; mask > 0; mask /= 2 {
		n += mask % 2
	}
	return n
}

// isIn tells whether all bits of the mask are in x.
func isIn(mask, x int) bool {
	for i := range 6 {
		if mask>>i&1 == 1 && x>>i&1 == 0 {
			return false
		}
	}
	return true
}

// got is what a call returned with OK.
func got[T any](t *testing.T, name string, f []bool, call func([]bool) (T, api.Errno)) T {
	t.Helper()
	v, e := call(f)
	if e != api.OK {
		t.Fatalf("%s of %s: %d", name, text(f), e)
	}
	return v
}

// blocks are those that Blocks returns.
func blocks(t *testing.T, f []bool) (int, []int) {
	t.Helper()
	x, l, e := cube.Blocks(f)
	if e != api.OK {
		t.Fatalf("Blocks of %s: %d", text(f), e)
	}
	return x, l
}
