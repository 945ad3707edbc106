package sort_test

import (
	"fmt"
	"math"
	"slices"
	"testing"

	"stadda/api"
	"stadda/chance"
	"stadda/sort"
)

// P10.3: Sorted, Comb, SortBy, Shell. P10.4: Reach.

// firstBad is the first position whose element is greater than the one h positions after it, or -1.
func firstBad(row []int64, h int) int {
	for i := range row {
		for k := i + 1; k < len(row); k++ {
			if k-i == h && row[i] > row[k] {
				return i
			}
		}
	}
	return -1
}

func TestSorted(t *testing.T) {
	sorted := 0
	for _, row := range rows(1021, 30) {
		for _, h := range gapsOf(len(row)) {
			want := firstBad(row, h)
			at, is, e := sort.Sorted(row, h)
			if is != (want < 0) || at != max(want, 0) || e != api.OK {
				t.Errorf("Sorted of %v by %d: %d, %t, %d", row, h, at, is, e)
			}
			if is && h < len(row) {
				sorted++
			}
		}
	}
	if sorted < 1000 {
		t.Errorf("%d rows that are sorted", sorted)
	}
	row := make([]int64, 200)
	for h := 1; h < 200; h++ {
		for i := range 200 - h {
			row[i] = 1
			row[i+h] = -1 // those after it are less, too, but at no position h later
			if at, is, e := sort.Sorted(row[:i+h+1], h); is || at != i || e != api.OK {
				t.Fatalf("Sorted by %d, but for %d: %d, %t, %d", h, i, at, is, e)
			}
			clear(row)
		}
	}
}

// combed is the row that was combed, and how many exchanges there were, by the definition.
func combed(row []int64, h int) ([]int64, int) {
	out, n := slices.Clone(row), 0
	for i := range out {
		for k := i + 1; k < len(out); k++ {
			if k-i == h && out[i] > out[k] {
				out[i], out[k] = out[k], out[i]
				n++
			}
		}
	}
	return out, n
}

func TestComb(t *testing.T) {
	for _, row := range rows(1022, 30) {
		for _, h := range gapsOf(len(row)) {
			want, n := combed(row, h)
			if out, exchanges, e := sort.Comb(row, h); !slices.Equal(out, want) || exchanges != n || e != api.OK {
				t.Errorf("Comb of %v with %d: %v, %d, %d", row, h, out, exchanges, e)
			}
		}
	}
}

// byGap is the row that was sorted by h, and how many pairs were out of order, by the definition.
func byGap(row []int64, h int) ([]int64, int) {
	out, n := slices.Clone(row), 0
	for i := range row {
		for k := i + 1; k < len(row); k++ {
			if (k-i)%h == 0 && row[i] > row[k] {
				n++
			}
		}
	}
	for r := 0; r < h && r < len(row); r++ {
		var class []int64
		for i, v := range row {
			if i%h == r {
				class = append(class, v)
			}
		}
		slices.Sort(class)
		for i := range row {
			if i%h == r {
				out[i] = class[i/h]
			}
		}
	}
	return out, n
}

func TestSortBy(t *testing.T) {
	for _, row := range rows(1023, 30) {
		for _, h := range gapsOf(len(row)) {
			want, n := byGap(row, h)
			if out, pairs, e := sort.SortBy(row, h); !slices.Equal(out, want) || pairs != n || e != api.OK {
				t.Errorf("SortBy of %v, %d: %v, %d, %d", row, h, out, pairs, e)
			}
		}
	}
}

// shellOf is the row sorted by each gap in turn, and the sum of the numbers, by the definition.
func shellOf(row []int64, gaps []int) ([]int64, int) {
	out, sum := slices.Clone(row), 0
	for _, h := range gaps {
		next, n := byGap(out, h)
		out = next
		sum += n
	}
	return out, sum
}

func TestShell(t *testing.T) {
	s := chance.Source(1024)
	for _, row := range rows(1025, 20) {
		all := gapsOf(len(row))
		some := make([]int, s.Below(21))
		for i := range some {
			some[i] = all[s.Below(len(all))]
		}
		for _, gaps := range [][]int{nil, {}, {1}, {3, 1}, {1, 3, 1}, {40, 13, 4, 1}, {2, 2}, {math.MaxInt, 2}, {2, math.MaxInt}, some, slices.Repeat([]int{2}, 20)} {
			want, sum := shellOf(row, gaps)
			if out, pairs, e := sort.Shell(row, gaps); !slices.Equal(out, want) || pairs != sum || e != api.OK {
				t.Errorf("Shell of %v, %v: %v, %d, %d", row, gaps, out, pairs, e)
			}
		}
	}
}

func TestKnownRows(t *testing.T) {
	down := []int64{9, 8, 7, 6, 5, 4, 3, 2, 1, 0}
	for _, x := range []struct {
		row                   []int64
		h                     int
		sorted, comb, sorted2 string
	}{
		{nil, 1, "0 true", "[] 0", "[] 0"},
		{[]int64{5}, math.MaxInt, "0 true", "[5] 0", "[5] 0"},
		{[]int64{3, 1, 2}, 1, "0 false", "[1 2 3] 2", "[1 2 3] 2"},
		{[]int64{4, 3, 2, 1}, 2, "0 false", "[2 1 4 3] 2", "[2 1 4 3] 2"},
		{[]int64{4, 3, 2, 1}, 1, "0 false", "[3 2 1 4] 3", "[1 2 3 4] 6"},
		{[]int64{4, 3, 2, 1}, 3, "0 false", "[1 3 2 4] 1", "[1 3 2 4] 1"},
		{[]int64{4, 3, 2, 1}, 4, "0 true", "[4 3 2 1] 0", "[4 3 2 1] 0"},
		{[]int64{1, 1, 1, 0}, 1, "2 false", "[1 1 0 1] 1", "[0 1 1 1] 3"},
		{[]int64{1, 5, 1, 6, 0, 7}, 2, "2 false", "[1 5 0 6 1 7] 1", "[0 5 1 6 1 7] 2"},
		{[]int64{math.MaxInt64, math.MinInt64}, 1, "0 false", "[-9223372036854775808 9223372036854775807] 1", "[-9223372036854775808 9223372036854775807] 1"},
		{[]int64{math.MinInt64, math.MaxInt64}, 1, "0 true", "[-9223372036854775808 9223372036854775807] 0", "[-9223372036854775808 9223372036854775807] 0"},
		{down, 3, "0 false", "[6 5 4 3 2 1 0 8 7 9] 7", "[0 2 1 3 5 4 6 8 7 9] 12"},
		{down, 9, "0 false", "[0 8 7 6 5 4 3 2 1 9] 1", "[0 8 7 6 5 4 3 2 1 9] 1"},
	} {
		at, is, _ := sort.Sorted(x.row, x.h)
		comb, exchanges, _ := sort.Comb(x.row, x.h)
		out, pairs, _ := sort.SortBy(x.row, x.h)
		if fmt.Sprint(at, is) != x.sorted || fmt.Sprint(comb, exchanges) != x.comb || fmt.Sprint(out, pairs) != x.sorted2 {
			t.Errorf("%v, %d: Sorted %d, %t; Comb %v, %d; SortBy %v, %d", x.row, x.h, at, is, comb, exchanges, out, pairs)
		}
	}
	full := make([]int64, 200)
	for i := range full {
		full[i] = int64(-i)
	}
	if out, pairs, e := sort.Shell(full, slices.Repeat([]int{1}, 20)); !slices.IsSorted(out) || pairs != 19900 || e != api.OK {
		t.Errorf("Shell of the longest row: %v, %d, %d", out, pairs, e)
	}
	if out, pairs, e := sort.Shell(down, []int{3, 1}); !slices.IsSorted(out) || pairs != 15 || e != api.OK {
		t.Errorf("Shell: %v, %d, %d", out, pairs, e)
	}
}

func TestNoRows(t *testing.T) {
	want := func(row []int64, h int, want api.Errno) {
		t.Helper()
		at, is, e := sort.Sorted(row, h)
		if at != 0 || is || e != want {
			t.Errorf("Sorted of %d elements by %d: %d, %t, %d instead of %d", len(row), h, at, is, e, want)
		}
		for name, call := range map[string]func([]int64, int) ([]int64, int, api.Errno){"Comb": sort.Comb, "SortBy": sort.SortBy} {
			if out, n, e := call(row, h); len(out) > 0 || n != 0 || e != want {
				t.Errorf("%s of %d elements by %d: %v, %d, %d instead of %d", name, len(row), h, out, n, e, want)
			}
		}
	}
	for _, n := range []int{0, 1, 2, 199, 200} {
		for _, h := range append([]int{0, -5}, extremes...) {
			if h < 1 {
				want(make([]int64, n), h, api.ErrArg)
			}
		}
	}
	for _, n := range []int{201, 202, 1000, 1 << 20} {
		for _, h := range append([]int{0, 1, 200, 201}, extremes...) {
			want(make([]int64, n), h, api.ErrLong)
		}
	}
}

func TestNoShell(t *testing.T) {
	want := func(row []int64, gaps []int, want api.Errno) {
		t.Helper()
		if out, n, e := sort.Shell(row, gaps); len(out) > 0 || n != 0 || e != want {
			t.Errorf("Shell of %d elements, %v: %v, %d, %d instead of %d", len(row), gaps, out, n, e, want)
		}
	}
	many := slices.Repeat([]int{1}, 21)
	for _, n := range []int{0, 1, 5, 200} {
		row := make([]int64, n)
		want(row, many, api.ErrLong)
		want(row, make([]int, 21), api.ErrLong)
		want(row, make([]int, 1<<20), api.ErrLong)
		for _, h := range append([]int{0, -5}, extremes...) {
			if h >= 1 {
				continue
			}
			want(row, []int{h}, api.ErrArg)
			want(row, []int{1, 2, h}, api.ErrArg)
			want(row, []int{h, 1}, api.ErrArg)
			for at := range 20 {
				gaps := slices.Clone(many[:20])
				gaps[at] = h
				want(row, gaps, api.ErrArg)
				want(row, append(gaps, 1), api.ErrLong)
			}
		}
	}
	for _, n := range []int{201, 1 << 20} {
		row := make([]int64, n)
		want(row, nil, api.ErrLong)
		want(row, []int{1}, api.ErrLong)
		want(row, []int{0}, api.ErrLong)
		want(row, many, api.ErrLong)
		want(row, make([]int, 21), api.ErrLong)
	}
}

// notReached is the greatest integer that is no sum of some times a and some times b: one that is at least a b is such a sum, and no negative one is.
func notReached(a, b int) int {
	reached := make([]bool, a*b+1)
	reached[0] = true
	for i := range reached {
		reached[i] = reached[i] || i >= a && reached[i-a] || i >= b && reached[i-b]
	}
	for i := a * b; i >= 0; i-- {
		if !reached[i] {
			return i
		}
	}
	return -1
}

// haveDivisor tells whether a and b have a common divisor greater than 1.
func haveDivisor(a, b int) bool {
	for d := 2; d <= min(a, b); d++ {
		if a%d == 0 && b%d == 0 {
			return true
		}
	}
	return false
}

// checkReach checks Reach of a and b, from 1 to 1000.
func checkReach(t *testing.T, a, b int) {
	t.Helper()
	n, e := sort.Reach(a, b)
	if haveDivisor(a, b) {
		if n != 0 || e != api.ErrArg {
			t.Errorf("Reach of %d, %d: %d, %d", a, b, n, e)
		}
	} else if n != notReached(a, b) || e != api.OK {
		t.Errorf("Reach of %d, %d: %d, %d", a, b, n, e)
	}
}

func TestReach(t *testing.T) {
	for a := 1; a <= 60; a++ {
		for b := 1; b <= 60; b++ {
			checkReach(t, a, b)
		}
	}
	s := chance.Source(1026)
	for range 150 {
		checkReach(t, s.From(1, 1000), s.From(1, 1000))
	}
	for _, a := range []int{1, 2, 3, 500, 996, 997, 998, 999, 1000} {
		for _, b := range []int{1, 2, 998, 999, 1000} {
			checkReach(t, a, b)
			checkReach(t, b, a)
		}
	}
}

func TestKnownReach(t *testing.T) {
	for _, x := range [][3]int{{3, 5, 7}, {5, 3, 7}, {2, 3, 1}, {1, 1, -1}, {1, 2, -1}, {1000, 1, -1}, {6, 35, 169}, {2, 999, 997}, {999, 1000, 997001}, {1000, 999, 997001}} {
		if n, e := sort.Reach(x[0], x[1]); n != x[2] || e != api.OK {
			t.Errorf("Reach of %d, %d: %d, %d", x[0], x[1], n, e)
		}
	}
	for _, x := range [][2]int{{2, 2}, {4, 6}, {6, 4}, {1000, 1000}, {500, 1000}, {999, 3}, {0, 0}, {0, 1}, {1, 0}, {-1, 1}, {1, -1}, {-1, -1}, {1, 1001}, {1001, 1}, {1001, 1001}, {3, 1001}, {-3, 5}, {3, -5}} {
		if n, e := sort.Reach(x[0], x[1]); n != 0 || e != api.ErrArg {
			t.Errorf("Reach of %d, %d: %d, %d", x[0], x[1], n, e)
		}
	}
	for _, a := range extremes {
		for _, b := range append([]int{1, 2, 3, 1000}, extremes...) {
			if 0 < a && a <= 1000 && 0 < b && b <= 1000 {
				continue
			}
			n, e := sort.Reach(a, b)
			m, f := sort.Reach(b, a)
			if n != 0 || m != 0 || e != api.ErrArg || f != api.ErrArg {
				t.Errorf("Reach of %d, %d: %d, %d; %d, %d", a, b, n, e, m, f)
			}
		}
	}
}
