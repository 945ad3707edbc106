package order_test

import (
	"fmt"
	"slices"
	"testing"

	"stadda/api"
	"stadda/chance"
	"stadda/order"
)

// P9.1: Check, Closure, Covers; which error comes first. R4.

func TestCheck(t *testing.T) {
	for n, want := range []int{1, 1, 3, 19, 219, 4231} { // labelled orders
		if n > 0 && len(all(n)) != want {
			t.Errorf("%d orders of %d elements", len(all(n)), n)
		}
	}
	for _, p := range slices.Concat(small(5), known(), some(902, 5, 12, 300)) {
		if e := order.Check(p); e != api.OK {
			t.Errorf("Check of %s: %d", text(p), e)
		}
	}
	for _, p := range noOrders() {
		if e := order.Check(p); e != api.ErrOrder {
			t.Errorf("Check of %d rows: %d", len(p), e)
		}
	}
}

// Of all tables of four elements.
func TestCheckAllTables(t *testing.T) {
	count := 0
	for number := range 1 << 16 {
		p := make(order.Table, 4)
		for x := range p {
			for y := range 4 {
				p[x] = append(p[x], number>>(4*x+y)&1 == 1)
			}
		}
		want := api.ErrOrder
		if isOrder(p) {
			want = api.OK
			count++
		}
		if e := order.Check(p); e != want {
			t.Errorf("Check of %s: %d", text(p), e)
		}
	}
	if count != 219 {
		t.Errorf("%d orders", count)
	}
}

// Where one value of a table is another one, it may be no order any more.
func TestCheckFindsEachPlace(t *testing.T) {
	for _, p := range slices.Concat(known(), some(903, 5, 12, 100)) {
		for x := range p {
			for y := range p {
				q := changed(p, x, y)
				want := api.ErrOrder
				if isOrder(q) {
					want = api.OK
				}
				if e := order.Check(q); e != want {
					t.Errorf("Check of %s: %d", text(q), e)
				}
			}
		}
	}
}

func checkClosure(t *testing.T, n int, pairs [][2]int) {
	t.Helper()
	want := antichain(n)
	for _, pair := range pairs {
		want[pair[0]][pair[1]] = true
	}
	want = closed(want)
	p, e := order.Closure(n, pairs)
	if !isOrder(want) {
		if len(p) > 0 || e != api.ErrOrder {
			t.Errorf("Closure of %d, %v: %s, %d", n, pairs, text(p), e)
		}
	} else if !same(p, want) || e != api.OK {
		t.Errorf("Closure of %d, %v: %s, %d instead of %s", n, pairs, text(p), e, text(want))
	}
}

func TestClosure(t *testing.T) {
	for n := 1; n <= 12; n++ {
		checkClosure(t, n, nil)
		checkClosure(t, n, [][2]int{})
		var rising, falling, ring, same [][2]int
		for x := range n - 1 {
			rising = append(rising, [2]int{x, x + 1})
			falling = append(falling, [2]int{x + 1, x})
		}
		for x := range n {
			ring = append(ring, [2]int{x, (x + 1) % n})
			same = append(same, [2]int{x, x})
		}
		for _, pairs := range [][][2]int{rising, falling, ring, same, append(slices.Clone(rising), rising...), append(slices.Clone(same), falling...)} {
			checkClosure(t, n, pairs)
			slices.Reverse(pairs)
			checkClosure(t, n, pairs)
		}
	}
	s := chance.Source(904)
	refused := 0
	for range 3000 {
		n := s.From(1, 12)
		list := shuffled(&s, n)
		var pairs [][2]int
		for range s.Below(2 * n) {
			a, b := s.Below(n), s.Below(n)
			pairs = append(pairs, [2]int{list[min(a, b)], list[max(a, b)]})
		}
		checkClosure(t, n, pairs)
		a, b := s.Below(n), s.Below(n)
		pairs = append(pairs, [2]int{list[a], list[b]})
		checkClosure(t, n, pairs)
		if _, e := order.Closure(n, pairs); e == api.ErrOrder {
			refused++
		}
	}
	if refused < 300 {
		t.Errorf("%d rings", refused)
	}
}

// Each order is the closure of its pairs, and of those of elements right below others.
func TestClosureOfCovers(t *testing.T) {
	for _, p := range orders(905, 200) {
		var pairs, covers [][2]int
		for x := range p {
			for y := range p {
				if p[x][y] {
					pairs = append(pairs, [2]int{x, y})
				}
				if rightBelow(p, x, y) {
					covers = append(covers, [2]int{x, y})
				}
			}
		}
		if l := got(t, "Covers", p, order.Covers); !slices.Equal(l, covers) {
			t.Errorf("Covers of %s: %v instead of %v", text(p), l, covers)
		}
		for _, list := range [][][2]int{pairs, covers} {
			if q, e := order.Closure(len(p), list); !same(q, p) || e != api.OK {
				t.Errorf("Closure of %v: %s, %d", list, text(q), e)
			}
		}
	}
}

func TestNoClosure(t *testing.T) {
	want := func(n int, pairs [][2]int, want api.Errno) {
		t.Helper()
		if p, e := order.Closure(n, pairs); len(p) > 0 || e != want {
			t.Errorf("Closure of %d, %v: %s, %d instead of %d", n, pairs, text(p), e, want)
		}
	}
	for _, n := range append([]int{0, -3, 14}, extremes...) {
		if n != 12 {
			want(n, nil, api.ErrArg)
			want(n, [][2]int{{0, 0}}, api.ErrArg)
			want(n, [][2]int{{0, 1}, {1, 0}}, api.ErrArg)
		}
	}
	for n := 1; n <= 12; n++ {
		for _, x := range append([]int{n, n + 1}, extremes...) {
			if x >= 0 && x < n {
				continue
			}
			want(n, [][2]int{{0, x}}, api.ErrArg)
			want(n, [][2]int{{x, 0}}, api.ErrArg)
			want(n, [][2]int{{x, x}}, api.ErrArg)
			want(n, [][2]int{{0, n - 1}, {n - 1, 0}, {0, x}}, api.ErrArg)
			want(n, [][2]int{{0, x}, {0, n - 1}, {n - 1, 0}}, api.ErrArg)
			want(n, [][2]int{{0, n - 1}, {x, n - 1}, {n - 1, 0}}, api.ErrArg)
		}
		if n > 1 {
			want(n, [][2]int{{0, n - 1}, {n - 1, 0}}, api.ErrOrder)
			want(n, slices.Repeat([][2]int{{n - 1, 0}, {0, n - 1}}, 50000), api.ErrOrder)
		}
	}
	want(12, append(make([][2]int, 1<<20), [2]int{0, 12}), api.ErrArg)
}

func TestKnownCovers(t *testing.T) {
	for _, x := range []struct {
		p    order.Table
		want string
	}{
		{chain(1), "[]"}, {antichain(12), "[]"}, {chain(4), "[[0 1] [1 2] [2 3]]"}, {turned(chain(3)), "[[1 0] [2 1]]"}, {pentagon(2, 1), "[[0 1] [0 3] [1 2] [2 4] [3 4]]"}, {divisors(12), "[[0 1] [0 2] [1 3] [1 4] [2 4] [3 5] [4 5]]"}, {turned(divisors(12)), "[[1 0] [2 0] [3 1] [4 1] [4 2] [5 3] [5 4]]"},
	} {
		if l := got(t, "Covers", x.p, order.Covers); fmt.Sprint(l) != x.want {
			t.Errorf("Covers of %s: %v", text(x.p), l)
		}
	}
}

// result is what a call returned: as text, whether it is zero, whether parts of it share memory, and the error.
type result struct {
	text         string
	zero, shared bool
	e            api.Errno
}

// share tells whether any two of the lists share memory. It writes the mark all over them.
func share[T comparable](mark T, lists ...[]T) bool {
	var zero T
	for _, l := range lists {
		clear(l[:cap(l)])
	}
	for _, l := range lists {
		for i, v := range l[:cap(l)] {
			if v != zero {
				return true
			}
			l[:cap(l)][i] = mark
		}
	}
	return false
}

// value is the result with a value.
func value[T comparable](v T, e api.Errno) result {
	var zero T
	return result{text: fmt.Sprint(v), zero: v == zero, e: e}
}

// list is the result with a list, which is then cleared.
func list[T any](l []T, e api.Errno) result {
	r := result{text: fmt.Sprint(l), zero: len(l) == 0, e: e}
	clear(l[:cap(l)])
	return r
}

// rows is the result with a table.
func rows[T comparable](mark T, p [][]T, e api.Errno) result {
	return result{text: fmt.Sprint(p), zero: len(p) == 0, shared: share(mark, p...), e: e}
}

// calls are all calls that take an order and return an error.
func calls(x, y int) map[string]func(p order.Table) result {
	return map[string]func(p order.Table) result{
		"Check":               func(p order.Table) result { return value(0, order.Check(p)) },
		"Covers":              func(p order.Table) result { return list(order.Covers(p)) },
		"Moebius":             func(p order.Table) result { m, e := order.Moebius(p); return rows(-99, m, e) },
		"Sums":                func(p order.Table) result { return list(order.Sums(p, ramp(len(p)))) },
		"Sums of none":        func(p order.Table) result { return list(order.Sums(p, nil)) },
		"Differences":         func(p order.Table) result { return list(order.Differences(p, ramp(len(p)))) },
		"Differences of none": func(p order.Table) result { return list(order.Differences(p, nil)) },
		"Chains":              func(p order.Table) result { return list(order.Chains(p, x, y)) },
		"Euler":               func(p order.Table) result { return value(order.Euler(p)) },
		"Ideals":              func(p order.Table) result { return list(order.Ideals(p)) },
		"IdealOrder":          func(p order.Table) result { q, e := order.IdealOrder(p); return rows(true, q, e) },
		"Lattice": func(p order.Table) result {
			joins, meets, ok, e := order.Lattice(p)
			r := rows(-99, slices.Concat(joins, meets), e)
			r.zero = r.zero && !ok
			return r
		},
		"Gap": func(p order.Table) result {
			x, y, found, e := order.Gap(p)
			return value([3]int{x, y, map[bool]int{true: 1}[found]}, e)
		},
		"JoinElements": func(p order.Table) result { return list(order.JoinElements(p)) },
		"Bad": func(p order.Table) result {
			five, ok, e := order.Bad(p)
			r := value(five, e)
			r.zero = r.zero && !ok
			return r
		},
		"Birkhoff": func(p order.Table) result { return list(order.Birkhoff(p)) },
		"Completion": func(p order.Table) result {
			sets, q, places, e := order.Completion(p)
			r := rows(true, q, e)
			r.text += fmt.Sprint(sets, places)
			r.zero = r.zero && len(sets) == 0 && len(places) == 0
			r.shared = r.shared || share(-99, sets, places)
			return r
		},
		"Fixed":         func(p order.Table) result { return list(order.Fixed(p, make([]int, len(p)))) },
		"Fixed of none": func(p order.Table) result { return list(order.Fixed(p, nil)) },
		"Crosscut":      func(p order.Table) result { return list(order.Crosscut(p)) },
		"Linear":        func(p order.Table) result { return value(order.Linear(p)) },
	}
}

// ramp are the numbers from 1 to n.
func ramp(n int) []int64 {
	list := make([]int64, n)
	for i := range list {
		list[i] = int64(i + 1)
	}
	return list
}

func TestNoOrders(t *testing.T) {
	for _, p := range noOrders() {
		for _, x := range [][2]int{{0, 0}, {-1, 0}, {0, 99}} {
			for name, call := range calls(x[0], x[1]) {
				if r := call(p); !r.zero || r.e != api.ErrOrder {
					t.Errorf("%s of %d rows: %v", name, len(p), r)
				}
			}
		}
		for _, five := range [][5]int{{}, {0, 1, 2, 3, 4}, {-1, 1, 2, 3, 4}} {
			if order.IsBad(p, five) {
				t.Errorf("IsBad of %d rows", len(p))
			}
		}
	}
}

// frame is a copy of p in the midst of other rows and values.
func frame(p order.Table) (order.Table, order.Table) {
	whole := order.Table{{true}}
	part := order.Table{{true}}
	for _, row := range p {
		r := slices.Concat([]bool{true}, row, []bool{true, false, true})
		whole = append(whole, r)
		part = append(part, r[1:1+len(row)])
	}
	whole = append(whole, []bool{false}, []bool{true})
	part = append(part, []bool{false}, []bool{true})
	return whole, part[1 : 1+len(p)]
}

// Arguments stay as they are, and results are memory of their own.
func TestMemory(t *testing.T) {
	for _, p := range orders(906, 60) {
		whole, part := frame(p)
		before := text(whole)
		for name, call := range calls(0, len(p)-1) {
			first := call(part)
			again := call(part)
			if text(whole) != before || text(part[:len(p)+2]) != text(p)+" 0 1" {
				t.Fatalf("%s of %s: the argument is %s", name, text(p), text(whole))
			}
			if first != again || first.shared {
				t.Fatalf("%s of %s: %v, then %v", name, text(p), first, again)
			}
		}
	}
}

func TestMemoryOfOtherArguments(t *testing.T) {
	p := pentagon(2, 1)
	values := []int64{-77, 1, 2, 3, 4, 5, -77, -77}
	for name, call := range map[string]func(order.Table, []int64) ([]int64, api.Errno){"Sums": order.Sums, "Differences": order.Differences} {
		l, e := call(p, values[1:6])
		if len(l) != 5 || e != api.OK {
			t.Errorf("%s: %v, %d", name, l, e)
		}
		clear(l[:cap(l)])
		if !slices.Equal(values, []int64{-77, 1, 2, 3, 4, 5, -77, -77}) {
			t.Fatalf("%s: the argument is %v", name, values)
		}
	}
	f := []int{-77, 0, 1, 1, 3, 4, -77, -77}
	l, e := order.Fixed(p, f[1:6])
	if !slices.Equal(l, []int{0, 1, 3, 4}) || e != api.OK {
		t.Errorf("Fixed: %v, %d", l, e)
	}
	clear(l[:cap(l)])
	if !slices.Equal(f, []int{-77, 0, 1, 1, 3, 4, -77, -77}) {
		t.Errorf("Fixed: the argument is %v", f)
	}
	pairs := [][2]int{{9, 9}, {0, 1}, {1, 2}, {9, 9}, {9, 9}}
	before := slices.Clone(pairs)
	for range 2 {
		q, e := order.Closure(3, pairs[1:3])
		if !same(q, chain(3)) || e != api.OK || !slices.Equal(pairs, before) || share(true, q...) {
			t.Errorf("Closure: %s, %d; the argument is %v", text(q), e, pairs)
		}
	}
}
