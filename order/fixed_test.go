package order_test

import (
	"slices"
	"testing"

	"stadda/api"
	"stadda/chance"
	"stadda/order"
)

// P9.6: Fixed.

// keeps tells whether a map keeps the order by the definition.
func keeps(p order.Table, f []int) bool {
	for x := range p {
		for y := range p {
			if p[x][y] && !p[f[x]][f[y]] {
				return false
			}
		}
	}
	return true
}

// checkFixed tells whether f keeps the order.
func checkFixed(t *testing.T, p order.Table, f []int) bool {
	t.Helper()
	l, e := order.Fixed(p, f)
	if !keeps(p, f) {
		if len(l) > 0 || e != api.ErrMap {
			t.Errorf("Fixed of %s, %v: %v, %d", text(p), f, l, e)
		}
		return false
	}
	var want []int
	for x := range f {
		if f[x] == x {
			want = append(want, x)
		}
	}
	if !slices.Equal(l, want) || e != api.OK {
		t.Errorf("Fixed of %s, %v: %v, %d", text(p), f, l, e)
	}
	return true
}

// ends are the elements to which x can go if those below it go where f says.
func ends(p order.Table, f []int, x int) []int {
	var list []int
	for to := range p {
		fits := true
		for y := range p {
			fits = fits && (y == x || !p[y][x] || p[f[y]][to])
		}
		if fits {
			list = append(list, to)
		}
	}
	return list
}

// someMap is a map of an order that keeps it, and has some fixed elements.
func someMap(s *chance.Source, p order.Table) []int {
	list := make([]int, len(p))
	for x := range list {
		list[x] = x
	}
	slices.SortFunc(list, func(x, y int) int { return len(atMostAll(p, []int{x})) - len(atMostAll(p, []int{y})) })
	f := make([]int, len(p))
	for _, x := range list {
		fits := ends(p, f, x)
		if len(fits) == 0 {
			return make([]int, len(p))
		}
		f[x] = fits[s.Below(len(fits))]
		if slices.Contains(fits, x) && s.Below(2) == 0 {
			f[x] = x
		}
	}
	return f
}

// Of all maps of small orders.
func TestFixedOfAllMaps(t *testing.T) {
	for _, p := range small(4) {
		n := len(p)
		count := 1
		for range n {
			count *= n
		}
		for number := range count {
			f := make([]int, n)
			for x := range f {
				f[x] = number % n
				number /= n
			}
			checkFixed(t, p, f)
		}
	}
}

func TestFixed(t *testing.T) {
	s := chance.Source(961)
	kept, others := 0, 0
	for _, p := range slices.Concat(known(), some(962, 5, 12, 200), lattices(963, 30)[400:]) {
		n := len(p)
		identity := make([]int, n)
		for x := range identity {
			identity[x] = x
		}
		checkFixed(t, p, identity)
		checkFixed(t, p, shuffled(&s, n))
		for range 10 {
			f := someMap(&s, p)
			if !checkFixed(t, p, f) {
				t.Errorf("%v does not keep the order of %s", f, text(p))
			}
			f[s.Below(n)] = s.Below(n)
			if checkFixed(t, p, f) {
				kept++
			} else {
				others++
			}
		}
	}
	if kept < 500 || others < 500 {
		t.Errorf("%d maps keep the order, %d do not", kept, others)
	}
}

func TestNoFixed(t *testing.T) {
	want := func(p order.Table, f []int, want api.Errno) {
		t.Helper()
		if l, e := order.Fixed(p, f); len(l) > 0 || e != want {
			t.Errorf("Fixed of %s, %d numbers: %v, %d instead of %d", text(p), len(f), l, e, want)
		}
	}
	for _, p := range known() {
		n := len(p)
		for _, length := range []int{0, n - 1, n + 1, 2 * n, 1 << 20} {
			want(p, make([]int, length), api.ErrShape)
			want(p, slices.Repeat([]int{-1}, length), api.ErrShape)
		}
		for _, x := range append([]int{n, n + 1}, extremes...) {
			if x >= 0 && x < n {
				continue
			}
			for i := range p {
				f := slices.Repeat([]int{n - 1}, n)
				f[i] = x
				want(p, f, api.ErrArg)
				want(p, f[1:], api.ErrShape)
			}
		}
	}
	want(chain(3), []int{2, 1, 0}, api.ErrMap)
	want(chain(3), []int{2, 1, 3}, api.ErrArg)
	want(chain(3), []int{2, 1, -1}, api.ErrArg)
	want(chain(3), []int{2, 1}, api.ErrShape)
	want(chain(12), []int{0, 1, 2, 3, 4, 5, 6, 7, 8, 9, 11, 10}, api.ErrMap)
	want(antichain(12), []int{1, 2, 3, 4, 5, 6, 7, 8, 9, 10, 11, 0}, api.OK) // keeps the order, and nothing is fixed
}
