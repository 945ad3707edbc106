package shat_test

import (
	"math"
	"slices"
	"testing"

	"stadda/api"
	"stadda/chance"
	"stadda/shat"
)

// extremes are numbers outside of all ranges of this layer.
var extremes = []int{math.MinInt, math.MinInt + 1, math.MinInt / 2, math.MinInt32, -1024, -64, 1024, 1025, 1 << 31, 1 << 32, 1<<32 + 1, 1 << 62, math.MaxInt - 1, math.MaxInt}

// family is a family for n.
type family struct {
	n int
	l []int
}

// where is the family for n of the sets of which is says so.
func where(n int, is func(s int) bool) family {
	f := family{n: n}
	for s := range 1 << n {
		if is(s) {
			f.l = append(f.l, s)
		}
	}
	return f
}

// small are all families for up to n.
func small(n int) []family {
	var list []family
	for i := range n + 1 {
		for number := range 1 << (1 << i) {
			list = append(list, where(i, func(s int) bool { return number>>s&1 == 1 }))
		}
	}
	return list
}

// known are families for up to n of which much is known.
func known(n int) []family {
	var list []family
	for i := range n + 1 {
		for k := range i + 1 {
			list = append(list,
				where(i, func(s int) bool { return ones(s) == k }),
				where(i, func(s int) bool { return ones(s) <= k }),
				where(i, func(s int) bool { return ones(s) >= k }),
				where(i, func(s int) bool { return s>>k&1 == 1 }),
				where(i, func(s int) bool { return s&(s+1) == 0 && s < 1<<k }), // a chain
				where(i, func(s int) bool { return s&(s-1) == 0 && s <= 1<<k }),
				where(i, func(s int) bool { return isInterval(s) && ones(s) >= k }),
			)
		}
		list = append(list, where(i, func(s int) bool { return s%3 == 1 }), where(i, func(s int) bool { return s == 1<<i-1 }))
	}
	return list
}

// isInterval tells whether s has just the elements from one to another one.
func isInterval(s int) bool {
	for s > 0 && s%2 == 0 {
		s /= 2
	}
	return s&(s+1) == 0
}

// some are families for numbers from one to another one, with up to so many sets.
func some(s chance.Source, from, to, most, count int) []family {
	var list []family
	for range count {
		n := s.From(from, to)
		f := family{n: n}
		for range s.Below(most + 1) {
			f.l = append(f.l, s.Below(1<<n))
		}
		slices.Sort(f.l)
		f.l = slices.Compact(f.l)
		list = append(list, f)
	}
	return list
}

// dense are families for numbers from one to another one: of about every so many-th set.
func dense(s chance.Source, from, to, count int) []family {
	var list []family
	for range count {
		every := s.From(1, 5)
		out := s.Below(2) == 0
		list = append(list, where(s.From(from, to), func(int) bool { return (s.Below(every) == 0) != out }))
	}
	return list
}

// families are all families for up to 3, and others for up to n.
func families(s chance.Source, n, count int) []family {
	return slices.Concat(small(3), known(n), some(s, 4, n, 12, count), some(s+1, 4, n, 60, count), dense(s+2, 4, n, count))
}

// noFamilies are data that are no families, with the error that they lead to.
func noFamilies() map[api.Errno][]family {
	list := map[api.Errno][]family{}
	for _, n := range append([]int{-1, -2, -3, 11, 12, 20}, extremes...) {
		list[api.ErrArg] = append(list[api.ErrArg], family{n, nil}, family{n, []int{}}, family{n, []int{0}}, family{n, []int{1, 0}}, family{n, []int{-1}})
	}
	for n := range 11 {
		all := where(n, func(int) bool { return true }).l
		for _, l := range [][]int{{1 << n}, {-1}, {-1, 0}, {0, 0}, {0, 1 << n}, {0, 1<<n + 1}, {0, -1}, append(slices.Clone(all), 1<<n), append(slices.Clone(all), 1<<n-1), append([]int{0}, all...), append([]int{-1}, all...)} {
			list[api.ErrFamily] = append(list[api.ErrFamily], family{n, l})
		}
		for _, s := range extremes {
			list[api.ErrFamily] = append(list[api.ErrFamily], family{n, []int{s}}, family{n, []int{0, s}}, family{n, append(slices.Clone(all), s)})
		}
		if n > 0 {
			list[api.ErrFamily] = append(list[api.ErrFamily], family{n, []int{1, 0}}, family{n, []int{1, 1}}, family{n, []int{0, 1, 1}}, family{n, []int{0, 1, 0}})
		}
		list[api.ErrFamily] = append(list[api.ErrFamily], family{n, make([]int, 1<<22)})
	}
	return list
}

// elements are those of a set.
func elements(s int) []int {
	var list []int
	for i := range 10 {
		if s>>i&1 == 1 {
			list = append(list, i)
		}
	}
	return list
}

// ones is the number of elements of a set.
func ones(s int) int {
	return len(elements(s))
}

// isWithin tells whether all elements of a are in b.
func isWithin(a, b int) bool {
	for _, i := range elements(a) {
		if b>>i&1 == 0 {
			return false
		}
	}
	return true
}

// sorted are the numbers, rising, each once.
func sorted(l []int) []int {
	l = slices.Clone(l)
	slices.Sort(l)
	return slices.Compact(l)
}

// choose is C(n, k) by Pascal's triangle.
func choose(n, k int) int {
	if k == 0 || k == n {
		return 1
	}
	return choose(n-1, k-1) + choose(n-1, k)
}

// got is what a call returned with OK.
func got[T any](t *testing.T, name string, f family, call func(int, []int) (T, api.Errno)) T {
	t.Helper()
	v, e := call(f.n, f.l)
	if e != api.OK {
		t.Fatalf("%s of %v: %d", name, f, e)
	}
	return v
}

// closed is the closure of a family.
func closed(t *testing.T, f family, upward bool) family {
	t.Helper()
	return family{f.n, got(t, "Closure", f, func(n int, l []int) ([]int, api.Errno) { return shat.Closure(n, l, upward) })}
}
