package cube_test

import (
	"slices"
	"testing"

	"stadda/api"
	"stadda/chance"
	"stadda/cube"
)

// P7.4: Twin.

// turned is f with the bit turned.
func turned(f []bool, bit int) []bool {
	return where(width(f), func(x int) bool { return f[x^1<<bit] })
}

// changed is f with two bits in each other's places.
func changed(f []bool, i, j int) []bool {
	return where(width(f), func(x int) bool { return f[x&^(1<<i|1<<j)|x>>i&1<<j|x>>j&1<<i] })
}

// not is f with the other values.
func not(f []bool) []bool {
	return where(width(f), func(x int) bool { return !f[x] })
}

// steps are twins of f that lead, step by step, to all of them.
func steps(f []bool) [][]bool {
	list := [][]bool{not(f)}
	for i := range width(f) {
		list = append(list, turned(f, i))
		if i > 0 {
			list = append(list, changed(f, i-1, i))
		}
	}
	return list
}

// aTwin is some twin of f.
func aTwin(s *chance.Source, f []bool) []bool {
	for range 3 * width(f) {
		list := steps(f)
		f = list[s.Below(len(list))]
	}
	return f
}

// firstTwins are the first twins of all functions of n bits, by their tables' strings, and the number of first twins: the functions come in the order of their tables, each with all its twins.
func firstTwins(n int) (map[string]string, int) {
	first, count := map[string]string{}, 0
	for number := range 1 << (1 << n) {
		f := where(n, func(x int) bool { return number>>(1<<n-1-x)&1 == 1 })
		if _, met := first[text(f)]; met {
			continue
		}
		count++
		first[text(f)] = text(f)
		for queue := [][]bool{f}; len(queue) > 0; queue = queue[1:] {
			for _, g := range steps(queue[0]) {
				if _, met := first[text(g)]; !met {
					first[text(g)] = text(f)
					queue = append(queue, g)
				}
			}
		}
	}
	return first, count
}

// All functions of up to four bits.
func TestTwin(t *testing.T) {
	for n, classes := range []int{1, 2, 4, 14, 222} {
		first, count := firstTwins(n)
		if count != classes {
			t.Fatalf("%d first twins of %d bits", count, n)
		}
		for s, want := range first {
			if f, e := cube.Twin(table(s)); text(f) != want || e != api.OK {
				t.Errorf("Twin of %s: %s, %d instead of %s", s, text(f), e, want)
			}
		}
	}
}

func TestKnownTwins(t *testing.T) {
	for s, want := range map[string]string{"0": "0", "1": "0", "00": "00", "11": "00", "01": "01", "10": "01", "0110": "0110", "1001": "0110", "0001": "0001", "1000": "0001", "1101": "0001", "0101": "0011", "1100": "0011", "00010111": "00010111", "11101000": "00010111", "01110001": "00010111", "00001000": "00000001", "01101001": "01101001", "10010110": "01101001", "1111111111111111": "0000000000000000", "1010101010101010": "0000000011111111"} {
		if f, e := cube.Twin(table(s)); text(f) != want || e != api.OK {
			t.Errorf("Twin of %s: %s, %d instead of %s", s, text(f), e, want)
		}
	}
}

func TestTwinsOfTooManyBits(t *testing.T) {
	for _, f := range slices.Concat(ordered(5), some(761, 5, 6, 50), [][]bool{make([]bool, 32), make([]bool, 64), where(6, func(int) bool { return true })}) {
		if g, e := cube.Twin(f); len(g) > 0 || e != api.ErrLong {
			t.Errorf("Twin of %s: %s, %d", text(f), text(g), e)
		}
	}
}

// R4: the table is left as it is, results are new.
func TestTwinsAreNew(t *testing.T) {
	for _, f := range functions(762, 4, 50) {
		spare := append(slices.Clone(f), true, false)
		g := got(t, "Twin", spare[:len(f)], cube.Twin)
		before := slices.Clone(g)
		again := got(t, "Twin", g, cube.Twin)
		for x := range g {
			g[x] = !g[x]
		}
		if !slices.Equal(again, before) || text(spare) != text(f)+"10" || !slices.Equal(got(t, "Twin", f, cube.Twin), before) {
			t.Errorf("Twin of %s, later: %s instead of %s", text(f), text(again), text(before))
		}
	}
}
