package sort_test

import (
	"fmt"
	"slices"
	"testing"

	"stadda/api"
	"stadda/chance"
	"stadda/sort"
)

// P10.2: Layers, Straight, Merge.

// layersOf are the layers by the definition.
func layersOf(l [][2]int) [][][2]int {
	var list [][][2]int
	layer := make([]int, len(l))
	for i, c := range l {
		for k, earlier := range l[:i] {
			if c[0] == earlier[0] || c[0] == earlier[1] || c[1] == earlier[0] || c[1] == earlier[1] {
				layer[i] = max(layer[i], layer[k]+1)
			}
		}
	}
	for at := range l {
		var here [][2]int
		for i, c := range l {
			if layer[i] == at {
				here = append(here, c)
			}
		}
		if len(here) > 0 {
			list = append(list, here)
		}
	}
	return list
}

func TestLayers(t *testing.T) {
	s := chance.Source(1013)
	for _, x := range networks(1011, 30) {
		want := layersOf(x.l)
		got, e := sort.Layers(x.n, x.l)
		if !slices.EqualFunc(got, want, slices.Equal) || e != api.OK {
			t.Errorf("Layers of %v: %v, %d instead of %v", x, got, e, want)
		}
		if values := someRow(&s, x.n, -9, 9); !slices.Equal(come(slices.Concat(got...), values), come(x.l, values)) {
			t.Errorf("Layers of %v: %v does something else with %v", x, got, values)
		}
	}
}

func TestKnownLayers(t *testing.T) {
	for _, x := range []struct {
		n    int
		l    [][2]int
		want string
	}{
		{1, nil, "[]"}, {10, nil, "[]"}, {2, [][2]int{{0, 1}, {0, 1}}, "[[[0 1]] [[0 1]]]"},
		{4, [][2]int{{2, 3}, {0, 1}}, "[[[2 3] [0 1]]]"},
		{4, [][2]int{{0, 1}, {1, 2}, {2, 3}, {0, 1}}, "[[[0 1]] [[1 2]] [[2 3] [0 1]]]"},
		{6, [][2]int{{0, 1}, {0, 1}, {0, 1}, {4, 5}, {2, 3}, {1, 2}, {3, 4}}, "[[[0 1] [4 5] [2 3]] [[0 1] [3 4]] [[0 1]] [[1 2]]]"},
		{5, [][2]int{{0, 4}, {1, 3}, {0, 4}, {1, 2}, {2, 3}, {3, 4}}, "[[[0 4] [1 3]] [[0 4] [1 2]] [[2 3]] [[3 4]]]"},
	} {
		if l, e := sort.Layers(x.n, x.l); fmt.Sprint(l) != x.want || e != api.OK {
			t.Errorf("Layers of %v: %v, %d", x.l, l, e)
		}
	}
	for n := 2; n <= 10; n++ {
		if l, _ := sort.Layers(n, bricks(n)); len(l) != n && n > 2 {
			t.Errorf("Layers of %d rows of bricks: %v", n, l)
		}
		if l, _ := sort.Layers(n, bubble(n)); len(l) != 2*n-3 {
			t.Errorf("Layers of the bubbles of %d: %v", n, l)
		}
		if l, _ := sort.Layers(n, slices.Repeat([][2]int{{0, n - 1}}, 200)); len(l) != 200 {
			t.Errorf("Layers of the same comparator: %d", len(l))
		}
	}
}

// straightened is the straight network and the places by the definition: each wire stands behind the network, too, so that it is renamed as the comparators are.
func straightened(x network) ([][2]int, []int) {
	list := slices.Clone(x.l)
	for wire := range x.n {
		list = append(list, [2]int{wire, wire})
	}
	for at, c := range list {
		if c = list[at]; c[0] <= c[1] {
			continue
		}
		list[at] = [2]int{c[1], c[0]}
		for later := at + 1; later < len(list); later++ {
			for end, wire := range list[later] {
				switch wire {
				case c[0]:
					list[later][end] = c[1]
				case c[1]:
					list[later][end] = c[0]
				}
			}
		}
	}
	places := make([]int, x.n)
	for wire := range places {
		places[wire] = list[len(x.l)+wire][0]
	}
	return list[:len(x.l)], places
}

// looseOnes are all small loose networks, and others.
func looseOnes() []network {
	return slices.Concat(small(isLoose), some(1012, 60, isLoose), almost())
}

func TestStraight(t *testing.T) {
	for _, x := range looseOnes() {
		want, wantPlaces := straightened(x)
		l, places, e := sort.Straight(x.n, x.l)
		if !slices.Equal(l, want) || !slices.Equal(places, wantPlaces) || e != api.OK {
			t.Errorf("Straight of %v: %v, %v, %d instead of %v, %v", x, l, places, e, want, wantPlaces)
		}
	}
}

func TestKnownStraightNetworks(t *testing.T) {
	for _, x := range []struct {
		n    int
		l    [][2]int
		want string
	}{
		{1, nil, "[] [0]"}, {4, nil, "[] [0 1 2 3]"}, {2, [][2]int{{0, 1}}, "[[0 1]] [0 1]"}, {2, [][2]int{{1, 0}}, "[[0 1]] [1 0]"},
		{2, [][2]int{{1, 0}, {1, 0}}, "[[0 1] [0 1]] [1 0]"}, {2, [][2]int{{1, 0}, {0, 1}}, "[[0 1] [0 1]] [0 1]"},
		{3, [][2]int{{2, 0}, {0, 1}, {1, 2}}, "[[0 2] [1 2] [0 2]] [1 0 2]"},
		{3, [][2]int{{1, 0}, {2, 1}, {1, 0}}, "[[0 1] [0 2] [1 2]] [2 1 0]"},
		{3, [][2]int{{1, 0}, {2, 1}}, "[[0 1] [0 2]] [1 2 0]"},
	} {
		l, places, e := sort.Straight(x.n, x.l)
		if fmt.Sprint(l, places) != x.want || e != api.OK {
			t.Errorf("Straight of %v: %v, %v, %d", x.l, l, places, e)
		}
	}
}

func TestNoStraight(t *testing.T) {
	want := func(n int, l [][2]int, want api.Errno) {
		t.Helper()
		if s, places, e := sort.Straight(n, l); len(s) > 0 || len(places) > 0 || e != want {
			t.Errorf("Straight of %d, %v: %v, %v, %d instead of %d", n, l, s, places, e, want)
		}
	}
	long := slices.Repeat([][2]int{{1, 0}}, 201)
	longBad := slices.Repeat([][2]int{{0, 0}}, 201)
	for _, n := range append([]int{0, -5}, extremes...) {
		want(n, nil, api.ErrArg)
		want(n, [][2]int{{1, 0}}, api.ErrArg)
		want(n, [][2]int{{0, 0}}, api.ErrArg)
		want(n, longBad, api.ErrArg)
	}
	for n := 1; n <= 10; n++ {
		want(n, long, api.ErrLong)
		want(n, longBad, api.ErrLong)
		wires := append([]int{n, n + 1}, extremes...)
		for i := range n {
			wires = append(wires, i)
			want(n, [][2]int{{i, i}}, api.ErrNet)
		}
		for _, bad := range wires[:2+len(extremes)] {
			if 0 <= bad && bad < n {
				continue
			}
			for _, wire := range wires {
				want(n, [][2]int{{bad, wire}}, api.ErrNet)
				want(n, [][2]int{{wire, bad}}, api.ErrNet)
				if n > 1 {
					want(n, [][2]int{{n - 1, 0}, {0, n - 1}, {wire, bad}}, api.ErrNet)
					want(n, [][2]int{{bad, wire}, {n - 1, 0}}, api.ErrNet)
					want(n, append(long[:199:199], [2]int{bad, wire}), api.ErrNet)
				}
			}
		}
	}
}

func TestMerge(t *testing.T) {
	counts := []int{0, 1, 3, 5, 9, 12, 16, 19, 26, 31} // of Batcher's networks
	for n := 1; n <= 10; n++ {
		l, e := sort.Merge(n)
		if !slices.Equal(l, exchange(n)) || len(l) != counts[n-1] || e != api.OK {
			t.Errorf("Merge of %d: %v, %d", n, l, e)
		}
		if sort.Check(n, l) != api.OK {
			t.Errorf("Merge of %d: %v is no network", n, l)
		}
	}
	for n, want := range map[int]string{
		1: "[]", 2: "[[0 1]]", 3: "[[0 2] [0 1] [1 2]]", 4: "[[0 2] [1 3] [0 1] [2 3] [1 2]]",
		5: "[[0 4] [0 2] [1 3] [2 4] [0 1] [2 3] [1 4] [1 2] [3 4]]",
		8: "[[0 4] [1 5] [2 6] [3 7] [0 2] [1 3] [4 6] [5 7] [2 4] [3 5] [0 1] [2 3] [4 5] [6 7] [1 4] [3 6] [1 2] [3 4] [5 6]]",
	} {
		if l, e := sort.Merge(n); fmt.Sprint(l) != want || e != api.OK {
			t.Errorf("Merge of %d: %v, %d", n, l, e)
		}
	}
	for _, n := range append([]int{0, -7}, extremes...) {
		if l, e := sort.Merge(n); len(l) > 0 || e != api.ErrArg {
			t.Errorf("Merge of %d: %v, %d", n, l, e)
		}
	}
}
