package sort_test

import (
	"fmt"
	"math"
	"slices"
	"testing"

	"stadda/api"
	"stadda/chance"
	"stadda/sort"
)

// Which error comes first (P10.1, P10.2, R1), what stands beside it (R2); arguments and results (R4).

// result is what a call returned: as text, whether it is zero, whether parts of it share memory, and the error.
type result struct {
	text         string
	zero, shared bool
	e            api.Errno
}

// share tells whether any two of the lists share memory. It writes the mark all over them.
func share[T comparable](mark T, lists ...[]T) bool {
	var zero T
	for _, l := range lists {
		clear(l[:cap(l)])
	}
	for _, l := range lists {
		for i, v := range l[:cap(l)] {
			if v != zero {
				return true
			}
			l[:cap(l)][i] = mark
		}
	}
	return false
}

// list is the result with a list, which is then written over.
func list[T comparable](mark T, l []T, e api.Errno) result {
	return result{fmt.Sprint(l), len(l) == 0, share(mark, l), e}
}

// counted is the result with a row and a number.
func counted(row []int64, n int, e api.Errno) result {
	r := list(-99, row, e)
	r.text += fmt.Sprint(" ", n)
	r.zero = r.zero && n == 0
	return r
}

// calls are all calls that take a network.
func calls(values []int64) map[string]func(n int, l [][2]int) result {
	return map[string]func(n int, l [][2]int) result{
		"Check": func(n int, l [][2]int) result { return result{zero: true, e: sort.Check(n, l)} },
		"Run":   func(n int, l [][2]int) result { out, e := sort.Run(n, l, values); return list(-99, out, e) },
		"Fails": func(n int, l [][2]int) result {
			p, fails, e := sort.Fails(n, l)
			return result{text: fmt.Sprint(p, fails), zero: p == 0 && !fails, e: e}
		},
		"Outputs": func(n int, l [][2]int) result { out, e := sort.Outputs(n, l); return list(-99, out, e) },
		"Idle":    func(n int, l [][2]int) result { out, e := sort.Idle(n, l); return list(-99, out, e) },
		"Layers": func(n int, l [][2]int) result {
			layers, e := sort.Layers(n, l)
			return result{fmt.Sprint(layers), len(layers) == 0, share([2]int{-99, -99}, layers...), e}
		},
	}
}

func TestNoNetworks(t *testing.T) {
	var values []int64
	want := func(n int, l [][2]int, want api.Errno) {
		t.Helper()
		for name, call := range calls(values) {
			if r := call(n, l); !r.zero || r.e != want {
				t.Errorf("%s of %d, %d comparators: %v instead of %d", name, n, len(l), r, want)
			}
		}
	}
	good := [][2]int{{0, 1}}
	bad := [][2]int{{0, 1}, {1, 0}}
	for _, n := range append([]int{0, -5}, extremes...) {
		for _, l := range [][][2]int{nil, good, bad, slices.Repeat(good, 201), slices.Repeat(bad, 200)} {
			want(n, l, api.ErrArg)
		}
	}
	for n := 1; n <= 10; n++ {
		for _, values = range [][]int64{nil, make([]int64, n), make([]int64, n+1)} { // too few or too many come later
			want(n, slices.Repeat([][2]int{{0, n - 1}}, 201), api.ErrLong)
			want(n, slices.Repeat(bad, 101), api.ErrLong)
			want(n, slices.Repeat([][2]int{{-1, 99}}, 1<<20), api.ErrLong)
			want(n, bad, api.ErrNet)
			want(n, [][2]int{{n - 1, n - 1}}, api.ErrNet)
			want(n, [][2]int{{n - 1, n}}, api.ErrNet)
			want(n, [][2]int{{-1, n - 1}}, api.ErrNet)
			want(n, [][2]int{{math.MinInt, math.MaxInt}}, api.ErrNet)
			want(n, slices.Repeat([][2]int{{n - 1, 0}}, 200), api.ErrNet)
			if n > 1 {
				want(n, append(slices.Repeat([][2]int{{0, n - 1}}, 199), [2]int{0, n}), api.ErrNet)
			}
		}
	}
}

func TestNoRun(t *testing.T) {
	for n := 1; n <= 10; n++ {
		for _, length := range []int{0, 1, n - 1, n, n + 1, 10, 11, 1 << 20} {
			values := make([]int64, length)
			out, e := sort.Run(n, bubble(n), values)
			if length == n {
				if len(out) != n || e != api.OK {
					t.Errorf("Run of %d wires: %v, %d", n, out, e)
				}
			} else if len(out) > 0 || e != api.ErrShape {
				t.Errorf("Run of %d wires, %d values: %v, %d", n, length, out, e)
			}
		}
	}
}

func TestLongestNetworks(t *testing.T) {
	for n := 2; n <= 10; n++ {
		l := slices.Repeat([][2]int{{0, n - 1}}, 200)
		for name, call := range calls(make([]int64, n)) {
			if r := call(n, l); r.e != api.OK {
				t.Errorf("%s of %d, 200 comparators: %d", name, n, r.e)
			}
		}
		if s, places, e := sort.Straight(n, slices.Repeat([][2]int{{n - 1, 0}}, 200)); !slices.Equal(s, l) || len(places) != n || places[0] != n-1 || e != api.OK {
			t.Errorf("Straight of %d, 200 comparators: %v, %v, %d", n, s, places, e)
		}
	}
}

// frame is a copy of a list in the midst of other elements.
func frame[T any](mark T, l []T) ([]T, []T) {
	whole := slices.Concat([]T{mark}, l, []T{mark, mark, mark})
	return whole, whole[1 : 1+len(l)]
}

// checkMemory calls twice, looks at the results, and at the arguments by their text.
func checkMemory(t *testing.T, name string, arguments func() string, call func() result) {
	t.Helper()
	before := arguments()
	first := call()
	again := call()
	if first != again || first.shared || first.e != api.OK {
		t.Errorf("%s of %s: %v, then %v", name, before, first, again)
	}
	if arguments() != before {
		t.Fatalf("%s of %s: the arguments are %s", name, before, arguments())
	}
}

func TestMemoryOfNetworks(t *testing.T) {
	s := chance.Source(1031)
	for _, x := range slices.Concat(almost(), some(1032, 10, isRising)) {
		allValues, values := frame(-77, someRow(&s, x.n, -9, 9))
		whole, l := frame([2]int{-77, 77}, x.l)
		arguments := func() string { return fmt.Sprint(x.n, whole, allValues) }
		for name, call := range calls(values) {
			checkMemory(t, name, arguments, func() result { return call(x.n, l) })
		}
	}
	for _, x := range some(1033, 10, isLoose) {
		whole, l := frame([2]int{-77, 77}, x.l)
		arguments := func() string { return fmt.Sprint(x.n, whole) }
		checkMemory(t, "Straight", arguments, func() result {
			net, places, e := sort.Straight(x.n, l)
			text := fmt.Sprint(net, places)
			return result{text, false, share([2]int{-99, -99}, net) || share(-99, places), e}
		})
	}
	for n := 1; n <= 10; n++ {
		arguments := func() string { return fmt.Sprint(n) }
		checkMemory(t, "Merge", arguments, func() result { l, e := sort.Merge(n); return list([2]int{-99, -99}, l, e) })
	}
}

func TestMemoryOfRows(t *testing.T) {
	for _, r := range rows(1034, 20) {
		whole, row := frame(-77, r)
		for _, h := range gapsOf(len(r)) {
			allGaps, gaps := frame(-77, []int{h, 1 + h/2})
			arguments := func() string { return fmt.Sprint(whole, allGaps) }
			checkMemory(t, "Sorted", arguments, func() result {
				at, is, e := sort.Sorted(row, h)
				return result{text: fmt.Sprint(at, is), e: e}
			})
			checkMemory(t, "Comb", arguments, func() result { return counted(sort.Comb(row, h)) })
			checkMemory(t, "SortBy", arguments, func() result { return counted(sort.SortBy(row, h)) })
			checkMemory(t, "Shell", arguments, func() result { return counted(sort.Shell(row, gaps)) })
			checkMemory(t, "Shell without gaps", arguments, func() result { return counted(sort.Shell(row, gaps[:0])) })
		}
	}
}
