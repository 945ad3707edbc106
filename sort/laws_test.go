package sort_test

import (
	"slices"
	"testing"

	"stadda/api"
	"stadda/chance"
	"stadda/sort"
)

// P10.5, P10.6, P10.7, P10.8.

// run is what comes out of a network.
func run(t *testing.T, x network, values []int64) []int64 {
	t.Helper()
	out, e := sort.Run(x.n, x.l, values)
	if len(out) != x.n || e != api.OK {
		t.Fatalf("Run of %v, %v: %v, %d", x, values, out, e)
	}
	return out
}

// never tells whether Fails finds no pattern.
func never(t *testing.T, x network) bool {
	t.Helper()
	_, fails, e := sort.Fails(x.n, x.l)
	if e != api.OK {
		t.Fatalf("Fails of %v: %d", x, e)
	}
	return !fails
}

// Knuth: what sorts zeros and ones, sorts.
func TestZerosAndOnes(t *testing.T) {
	orders := map[int][][]int64{}
	for n := 1; n <= 7; n++ {
		orders[n] = permutations(n)
	}
	for n := 1; n <= 4; n++ {
		orders[n] = append(orders[n], words(n, n)...)
	}
	for _, x := range slices.Concat(small(isRising), almost(), some(1041, 20, isRising)) {
		if x.n > 7 {
			continue
		}
		sorts := true
		for _, values := range orders[x.n] {
			sorts = sorts && slices.IsSorted(run(t, x, values))
		}
		if sorts != never(t, x) {
			t.Errorf("%v sorts: %t", x, sorts)
		}
	}
	s := chance.Source(1042)
	for _, x := range sorters() {
		for range 100 {
			values := someRow(&s, x.n, -s.From(1, 20), s.From(1, 20))
			if !slices.IsSorted(run(t, x, values)) {
				t.Errorf("%v does not sort %v", x, values)
			}
		}
	}
}

func TestPlainNetworks(t *testing.T) {
	var list []network
	for n := 1; n <= 4; n++ {
		for length := range []int{1, 5, 9, 8}[n-1] {
			for _, l := range lists(pairs(n, isPlain), length) {
				list = append(list, network{n, l})
			}
		}
	}
	for n := 1; n <= 10; n++ {
		for _, x := range []network{{n, bubble(n)}, {n, bricks(n)}} {
			list = append(list, x)
			for i := range x.l {
				list = append(list, without(x, i))
			}
		}
	}
	sorted := 0
	for _, x := range append(list, some(1043, 200, isPlain)...) {
		down := make([]int64, x.n)
		for i := range down {
			down[i] = int64(x.n - i)
		}
		sorts := never(t, x)
		if slices.IsSorted(run(t, x, down)) != sorts {
			t.Errorf("%v sorts: %t", x, sorts)
		}
		if sorts {
			sorted++
		}
	}
	if sorted < 100 {
		t.Errorf("%d plain networks that sort", sorted)
	}
}

// sorting are networks that sort, with comparators that are idle and others.
func sorting(s chance.Source) []network {
	list := sorters()
	for _, x := range sorters() {
		for range 10 {
			y := network{x.n, slices.Concat(someOf(&s, x.n, s.Below(20), isRising), x.l, someOf(&s, x.n, s.Below(20), isRising))}
			list = append(list, y)
		}
		list = append(list, network{x.n, slices.Concat(x.l, x.l)})
	}
	return list
}

func TestIdleComparatorsAreOfNoUse(t *testing.T) {
	left := 0
	for _, x := range slices.Concat(sorting(1044), some(1045, 20, isRising)) {
		idle, e := sort.Idle(x.n, x.l)
		if e != api.OK {
			t.Fatalf("Idle of %v: %d", x, e)
		}
		y := network{x.n, slices.Clone(x.l)}
		for _, i := range slices.Backward(idle) {
			y = without(y, i)
			left++
		}
		before, _ := sort.Outputs(x.n, x.l)
		after, _ := sort.Outputs(y.n, y.l)
		if never(t, x) != never(t, y) || !slices.Equal(before, after) {
			t.Errorf("%v does something else than %v", y, x)
		}
		if again, _ := sort.Idle(y.n, y.l); len(again) > 0 {
			t.Errorf("Idle of %v: %v, though those of %v were left out", y, again, x)
		}
	}
	if left < 1000 {
		t.Errorf("%d idle comparators", left)
	}
}

func TestMoreComparatorsStillSort(t *testing.T) {
	for _, x := range sorting(1046) {
		for _, c := range pairs(x.n, isRising) {
			first := network{x.n, slices.Insert(slices.Clone(x.l), 0, c)}
			last := network{x.n, append(slices.Clone(x.l), c)}
			if !never(t, first) || !never(t, last) {
				t.Errorf("%v with %v, at the beginning or at the end", x, c)
			}
			if idle, _ := sort.Idle(last.n, last.l); !slices.Contains(idle, len(x.l)) {
				t.Errorf("Idle of %v: %v", last, idle)
			}
		}
	}
}

// Batcher.
func TestMergeSorts(t *testing.T) {
	for n := 1; n <= 10; n++ {
		l, _ := sort.Merge(n)
		x := network{n, l}
		if !never(t, x) || len(failing(x)) > 0 {
			t.Errorf("Merge of %d: %v does not sort", n, l)
		}
		if out, e := sort.Outputs(n, l); len(out) != n+1 || e != api.OK {
			t.Errorf("Outputs of Merge of %d: %v, %d", n, out, e)
		}
		if n > 8 {
			continue
		}
		for _, values := range permutations(n) {
			if !slices.IsSorted(run(t, x, values)) {
				t.Errorf("Merge of %d does not sort %v", n, values)
			}
		}
	}
}

// sortedBy is the row sorted by h.
func sortedBy(t *testing.T, row []int64, h int) []int64 {
	t.Helper()
	out, _, e := sort.SortBy(row, h)
	if at, is, _ := sort.Sorted(out, h); !is || at != 0 || len(out) != len(row) || e != api.OK {
		t.Fatalf("SortBy of %v, %d: %v, %d", row, h, out, e)
	}
	return out
}

// Gale and Karp.
func TestRowsStaySorted(t *testing.T) {
	s := chance.Source(1047)
	for _, row := range rows(1048, 20) {
		all := gapsOf(len(row))
		for range 40 {
			h, k := all[s.Below(len(all))], all[s.Below(len(all))]
			if s.Below(2) == 0 {
				h, k = s.From(1, 20), s.From(1, 20)
			}
			both := sortedBy(t, sortedBy(t, row, h), k)
			if at, is, e := sort.Sorted(both, h); at != 0 || !is || e != api.OK {
				t.Errorf("%v, sorted by %d, then by %d: %d", row, h, k, at)
			}
			out, n, e := sort.SortBy(both, h)
			if !slices.Equal(out, both) || n != 0 || e != api.OK {
				t.Errorf("%v, sorted by %d, then by %d, then by %d again: %d", row, h, k, h, n)
			}
		}
	}
}

// Shell: far apart, elements are in order.
func TestReachOfTwoGaps(t *testing.T) {
	s := chance.Source(1049)
	checked := 0
	for _, row := range rows(1050, 60) {
		for range 40 {
			a, b := s.From(1, 15), s.From(1, 15)
			reach, e := sort.Reach(a, b)
			if e != api.OK {
				continue
			}
			both := sortedBy(t, sortedBy(t, row, a), b)
			for i := range both {
				for k := i + reach + 1; k < len(both); k++ {
					checked++
					if k > i && both[i] > both[k] {
						t.Errorf("%v is sorted by %d and %d, but not at %d and %d", both, a, b, i, k)
					}
				}
			}
		}
	}
	if checked < 100000 {
		t.Errorf("%d pairs", checked)
	}
}

// As far apart as Reach, they need not be: the elements at the positions that are sums are greater than the others.
func TestReachIsTheGreatest(t *testing.T) {
	for a := 1; a <= 14; a++ {
		for b := 1; b <= 14; b++ {
			reach, e := sort.Reach(a, b)
			if e != api.OK || reach < 1 {
				continue
			}
			row := make([]int64, reach+1)
			for i := range row {
				for k := i; k >= 0; k -= a {
					if k%b == 0 {
						row[i] = 1
					}
				}
			}
			_, byA, _ := sort.Sorted(row, a)
			_, byB, _ := sort.Sorted(row, b)
			if at, is, e := sort.Sorted(row, reach); !byA || !byB || is || at != 0 || e != api.OK {
				t.Errorf("Reach of %d, %d: %v is sorted by %d: %t", a, b, row, reach, is)
			}
		}
	}
}

func TestStraightNetworksDoTheSame(t *testing.T) {
	s := chance.Source(1051)
	sorted := 0
	for _, x := range looseOnes() {
		l, places, e := sort.Straight(x.n, x.l)
		if e != api.OK || sort.Check(x.n, l) != api.OK {
			t.Fatalf("Straight of %v: %v, %v, %d", x, l, places, e)
		}
		y := network{x.n, l}
		inputs := words(x.n, 2)
		if x.n > 6 {
			inputs = inputs[:0]
		}
		for range 10 {
			inputs = append(inputs, someRow(&s, x.n, -99, 99))
		}
		sorts := true
		for _, values := range inputs {
			out, want := run(t, y, values), come(x.l, values)
			for wire, place := range places {
				if out[place] != want[wire] {
					t.Fatalf("Straight of %v: %v, %v: %v becomes %v, not %v", x, l, places, values, out, want)
				}
			}
			sorts = sorts && slices.IsSorted(want)
		}
		if sorts && x.n <= 6 {
			sorted++
			if !never(t, y) {
				t.Errorf("Straight of %v, which sorts: %v", x, l)
			}
		}
	}
	if sorted < 100 {
		t.Errorf("%d loose networks that sort", sorted)
	}
}

// renamed is the network with other names of its wires, so that it is loose.
func renamed(s *chance.Source, x network) network {
	names := make([]int, x.n)
	for i := range names {
		k := s.Below(i + 1)
		names[i] = names[k]
		names[k] = i
	}
	l := make([][2]int, len(x.l))
	for i, c := range x.l {
		l[i] = [2]int{names[c[0]], names[c[1]]}
	}
	return network{x.n, l}
}

// A network that sorts puts all values in order, whatever the names of its wires, and so does its straight network on its own wires.
func TestStraightNetworksSort(t *testing.T) {
	s := chance.Source(1052)
	for _, x := range sorters() {
		for range 20 {
			y := renamed(&s, x)
			l, places, e := sort.Straight(y.n, y.l)
			if e != api.OK {
				t.Fatalf("Straight of %v: %d", y, e)
			}
			if p, fails, e := sort.Fails(y.n, l); fails || e != api.OK {
				t.Errorf("Straight of %v: %v, %v fails at %d", y, l, places, p)
			}
		}
	}
}
