package sort_test

import (
	"fmt"
	"maps"
	"slices"
	"testing"

	"stadda/api"
	"stadda/chance"
	"stadda/sort"
)

// P10.1: Check, Run, Fails, Outputs, Idle.

func TestCheck(t *testing.T) {
	for _, x := range networks(1001, 20) {
		if e := sort.Check(x.n, x.l); e != api.OK {
			t.Errorf("Check of %v: %d", x, e)
		}
	}
}

// All comparators of wires about the range, at any place among others.
func TestCheckFindsEachComparator(t *testing.T) {
	s := chance.Source(1002)
	for n := 1; n <= 10; n++ {
		wires := append([]int{n, n + 1}, extremes...)
		for i := range n {
			wires = append(wires, i)
		}
		for _, i := range wires {
			for _, j := range wires {
				want := api.ErrNet
				if 0 <= i && i < j && j < n {
					want = api.OK
				}
				if e := sort.Check(n, [][2]int{{i, j}}); e != want {
					t.Errorf("Check of %d, (%d, %d): %d", n, i, j, e)
				}
				others := someOf(&s, n, 5, isRising)
				for at := range len(others) + 1 {
					l := slices.Insert(slices.Clone(others), at, [2]int{i, j})
					if e := sort.Check(n, l); e != want {
						t.Errorf("Check of %d, %v: %d", n, l, e)
					}
				}
			}
		}
	}
}

func TestRun(t *testing.T) {
	want := func(x network, values []int64) {
		t.Helper()
		if out, e := sort.Run(x.n, x.l, values); !slices.Equal(out, come(x.l, values)) || e != api.OK {
			t.Errorf("Run of %v, %v: %v, %d", x, values, out, e)
		}
	}
	for _, x := range small(isRising) {
		for _, values := range words(x.n, 3) {
			want(x, values)
		}
	}
	s := chance.Source(1003)
	for _, x := range networks(1004, 20) {
		values := make([]int64, x.n)
		for i := range values {
			values[i] = extremeValues[s.Below(len(extremeValues))]
		}
		want(x, values)
		want(x, someRow(&s, x.n, -3, 3))
		want(x, someRow(&s, x.n, -1<<62, 1<<62))
	}
}

// failing are all patterns that come out out of order.
func failing(x network) []int {
	var list []int
	for pattern := range 1 << x.n {
		if !slices.IsSorted(come(x.l, digits(x.n, pattern))) {
			list = append(list, pattern)
		}
	}
	return list
}

func TestFailsAndOutputs(t *testing.T) {
	sorted := 0
	for _, x := range networks(1005, 30) {
		bad := failing(x)
		p, fails, e := sort.Fails(x.n, x.l)
		if fails != (len(bad) > 0) || fails && p != bad[0] || !fails && p != 0 || e != api.OK {
			t.Errorf("Fails of %v: %d, %t, %d; these do: %v", x, p, fails, e, bad)
		}
		if !fails {
			sorted++
		}
		var want []int
		for pattern := range 1 << x.n {
			want = append(want, patternOf(come(x.l, digits(x.n, pattern))))
		}
		slices.Sort(want)
		want = slices.Compact(want)
		if l, e := sort.Outputs(x.n, x.l); !slices.Equal(l, want) || e != api.OK {
			t.Errorf("Outputs of %v: %v, %d instead of %v", x, l, e, want)
		}
	}
	if sorted < 100 {
		t.Errorf("%d networks that sort", sorted)
	}
}

// The least patterns that fail are small ones and great ones.
func TestLeastFailingPatterns(t *testing.T) {
	least := map[int]bool{}
	for _, x := range almost() {
		p, fails, e := sort.Fails(x.n, x.l)
		if fails && slices.IsSorted(come(x.l, digits(x.n, p))) || !fails && p != 0 || e != api.OK {
			t.Errorf("Fails of %v: %d, %t, %d", x, p, fails, e)
		}
		least[p] = true
	}
	if l := slices.Sorted(maps.Keys(least)); len(l) < 60 || l[1] != 1 || l[len(l)-1] < 768 {
		t.Errorf("least patterns: %v", l)
	}
	for n := 2; n <= 10; n++ {
		if p, fails, e := sort.Fails(n, nil); p != 1 || !fails || e != api.OK {
			t.Errorf("Fails of %d wires: %d, %t, %d", n, p, fails, e)
		}
		if p, fails, e := sort.Fails(n, bubble(n-1)); p != 1 || !fails || e != api.OK { // the last wire is left out
			t.Errorf("Fails of %d wires, the last one left out: %d, %t, %d", n, p, fails, e)
		}
	}
}

// idle are the indices of the comparators that exchange nothing when any of the values come in.
func idle(x network, all [][]int64) []int {
	busy := make([]bool, len(x.l))
	for _, values := range all {
		v := slices.Clone(values)
		for i, c := range x.l {
			if v[c[0]] > v[c[1]] {
				v[c[0]], v[c[1]] = v[c[1]], v[c[0]]
				busy[i] = true
			}
		}
	}
	var list []int
	for i, is := range busy {
		if !is {
			list = append(list, i)
		}
	}
	return list
}

func TestIdle(t *testing.T) {
	patterns := map[int][][]int64{}
	for n := 1; n <= 10; n++ {
		patterns[n] = words(n, 2)
	}
	for _, x := range networks(1006, 30) {
		if l, e := sort.Idle(x.n, x.l); !slices.Equal(l, idle(x, patterns[x.n])) || e != api.OK {
			t.Errorf("Idle of %v: %v, %d", x, l, e)
		}
	}
}

// Whatever comes in, not only patterns.
func TestIdleWithAllOrders(t *testing.T) {
	orders := map[int][][]int64{}
	for n := 1; n <= 5; n++ {
		orders[n] = slices.Concat(words(n, n), permutations(n))
	}
	orders[6] = permutations(6)
	orders[7] = permutations(7)
	for _, x := range slices.Concat(small(isRising), sorters(), some(1007, 10, isRising)) {
		if x.n > 7 {
			continue
		}
		if l, e := sort.Idle(x.n, x.l); !slices.Equal(l, idle(x, orders[x.n])) || e != api.OK {
			t.Errorf("Idle of %v: %v, %d", x, l, e)
		}
	}
}

func TestKnownNetworks(t *testing.T) {
	for _, x := range []struct {
		n                   int
		l                   [][2]int
		fails               int
		outputs, idle, runs string // what comes out of n, n - 1, .., 1
	}{
		{1, nil, 0, "[0 1]", "[]", "[1]"},
		{2, nil, 1, "[0 1 2 3]", "[]", "[2 1]"},
		{2, [][2]int{{0, 1}}, 0, "[0 2 3]", "[]", "[1 2]"},
		{2, [][2]int{{0, 1}, {0, 1}}, 0, "[0 2 3]", "[1]", "[1 2]"},
		{3, [][2]int{{0, 1}, {1, 2}, {0, 1}}, 0, "[0 4 6 7]", "[]", "[1 2 3]"},
		{3, [][2]int{{0, 1}, {1, 2}}, 3, "[0 4 5 6 7]", "[]", "[2 1 3]"},
		{3, [][2]int{{0, 2}}, 2, "[0 2 4 5 6 7]", "[]", "[1 2 3]"},
		{3, [][2]int{{0, 1}, {0, 1}, {1, 2}, {0, 1}, {0, 2}, {1, 2}}, 0, "[0 4 6 7]", "[1 4 5]", "[1 2 3]"},
		{4, [][2]int{{0, 2}, {1, 3}, {0, 1}, {2, 3}, {1, 2}}, 0, "[0 8 12 14 15]", "[]", "[1 2 3 4]"},
		{4, [][2]int{{0, 1}, {2, 3}, {0, 2}, {1, 3}}, 5, "[0 8 10 12 14 15]", "[]", "[1 2 3 4]"},
	} {
		down := make([]int64, x.n)
		for i := range down {
			down[i] = int64(x.n - i)
		}
		p, fails, _ := sort.Fails(x.n, x.l)
		outputs, _ := sort.Outputs(x.n, x.l)
		idle, _ := sort.Idle(x.n, x.l)
		runs, _ := sort.Run(x.n, x.l, down)
		if p != x.fails || fails != (p > 0) || fmt.Sprint(outputs) != x.outputs || fmt.Sprint(idle) != x.idle || fmt.Sprint(runs) != x.runs {
			t.Errorf("%d, %v: fails %d, %t; outputs %v; idle %v; runs %v", x.n, x.l, p, fails, outputs, idle, runs)
		}
	}
}

// The networks that are known to sort with the fewest comparators have no comparator to spare.
func TestShortestNetworks(t *testing.T) {
	for _, x := range shortest() {
		if p, fails, e := sort.Fails(x.n, x.l); p != 0 || fails || e != api.OK {
			t.Errorf("Fails of %v: %d, %t, %d", x, p, fails, e)
		}
		for i := range x.l {
			if _, fails, _ := sort.Fails(x.n, without(x, i).l); !fails {
				t.Errorf("%v sorts without the comparator %d", x, i)
			}
		}
		if l, e := sort.Idle(x.n, x.l); len(l) > 0 || e != api.OK {
			t.Errorf("Idle of %v: %v, %d", x, l, e)
		}
		if l, e := sort.Idle(x.n, slices.Concat(x.l, x.l)); len(l) != len(x.l) || len(l) > 0 && (l[0] != len(x.l) || l[len(l)-1] != 2*len(l)-1) || e != api.OK {
			t.Errorf("Idle of %v, twice: %v, %d", x, l, e)
		}
	}
}
