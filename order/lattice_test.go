package order_test

import (
	"fmt"
	"slices"
	"testing"

	"stadda/api"
	"stadda/order"
)

// P9.4: Lattice, Gap, JoinElements, Birkhoff. P9.6: Crosscut.

func TestLattice(t *testing.T) {
	count := map[int]int{}
	for _, p := range slices.Concat(small(5), known(), some(931, 5, 12, 200), lattices(932, 100)) {
		joins, meets, ok, e := order.Lattice(p)
		if !isLattice(p) {
			if len(joins) > 0 || len(meets) > 0 || ok || e != api.OK {
				t.Errorf("Lattice of %s: %v, %v, %t, %d", text(p), joins, meets, ok, e)
			}
			continue
		}
		count[len(p)]++
		if len(joins) != len(p) || len(meets) != len(p) || !ok || e != api.OK {
			t.Fatalf("Lattice of %s: %v, %v, %t, %d", text(p), joins, meets, ok, e)
		}
		for x := range p {
			if len(joins[x]) != len(p) || len(meets[x]) != len(p) {
				t.Fatalf("Lattice of %s: %v, %v", text(p), joins, meets)
			}
			for y := range p {
				if joins[x][y] != joinOf(p, x, y) || meets[x][y] != meetOf(p, x, y) {
					t.Fatalf("Lattice of %s: %v, %v", text(p), joins, meets)
				}
			}
		}
	}
	for n := 1; n <= 12; n++ {
		if count[n] < 3 {
			t.Errorf("%d lattices of %d elements", count[n], n)
		}
	}
}

func TestLatticesOfFewElements(t *testing.T) {
	for n, want := range []int{0, 1, 2, 6, 36, 380} { // labelled lattices
		count := 0
		for _, p := range all(n) {
			if _, _, ok, _ := order.Lattice(p); ok {
				count++
			}
		}
		if count != want {
			t.Errorf("%d lattices of %d elements", count, n)
		}
	}
}

func TestKnownLattices(t *testing.T) {
	for _, x := range []struct {
		p            order.Table
		joins, meets string
	}{
		{chain(1), "[[0]]", "[[0]]"},
		{chain(3), "[[0 1 2] [1 1 2] [2 2 2]]", "[[0 0 0] [0 1 1] [0 1 2]]"},
		{turned(chain(2)), "[[0 0] [0 1]]", "[[0 1] [1 1]]"},
		{pentagon(2, 1), "[[0 1 2 3 4] [1 1 2 4 4] [2 2 2 4 4] [3 4 4 3 4] [4 4 4 4 4]]", "[[0 0 0 0 0] [0 1 1 0 1] [0 1 2 0 2] [0 0 0 3 3] [0 1 2 3 4]]"},
		{subsets(2), "[[0 1 2 3] [1 1 3 3] [2 3 2 3] [3 3 3 3]]", "[[0 0 0 0] [0 1 0 1] [0 0 2 2] [0 1 2 3]]"},
	} {
		if joins, meets, ok, e := order.Lattice(x.p); fmt.Sprint(joins) != x.joins || fmt.Sprint(meets) != x.meets || !ok || e != api.OK {
			t.Errorf("Lattice of %s: %v, %v, %t, %d", text(x.p), joins, meets, ok, e)
		}
	}
	for _, n := range []int{12, 36, 60, 72, 96} {
		list := divisorList(n)
		joins, meets, _, _ := order.Lattice(divisors(n))
		for x := range list {
			for y := range list {
				if j, m := list[joins[x][y]], list[meets[x][y]]; j*m != list[x]*list[y] || j%list[x] != 0 || list[y]%m != 0 {
					t.Errorf("Lattice of the divisors of %d: %d and %d have %d and %d", n, list[x], list[y], j, m)
				}
			}
		}
	}
}

// gapOf are the first two elements without a join or a meet by the definition.
func gapOf(p order.Table) (int, int, bool) {
	for x := range p {
		for y := range p {
			if x < y && (joinOf(p, x, y) < 0 || meetOf(p, x, y) < 0) {
				return x, y, true
			}
		}
	}
	return 0, 0, false
}

func TestGap(t *testing.T) {
	for _, p := range slices.Concat(small(5), known(), some(933, 5, 12, 200), lattices(934, 50)) {
		wantX, wantY, want := gapOf(p)
		if x, y, found, e := order.Gap(p); x != wantX || y != wantY || found != want || e != api.OK {
			t.Errorf("Gap of %s: %d, %d, %t, %d instead of %d, %d, %t", text(p), x, y, found, e, wantX, wantY, want)
		}
	}
	for _, x := range []struct {
		p     order.Table
		x, y  int
		found bool
	}{
		{chain(1), 0, 0, false}, {chain(12), 0, 0, false}, {antichain(2), 0, 1, true}, {antichain(12), 0, 1, true}, {tree(3, 2), 1, 2, true}, {turned(tree(3, 2)), 1, 2, true}, {layers(1, 2, 2, 1), 1, 2, true}, {turned(layers(1, 2, 2, 1)), 1, 2, true}, {layers(1, 1, 2, 2, 1), 2, 3, true}, {pentagon(2, 1), 0, 0, false}, {fence(3), 0, 2, true}, {apart(chain(11), chain(1)), 0, 11, true}, {divisors(96), 0, 0, false}, {numbers(1, 2, 3, 12, 18, 36), 1, 2, true}, {numbers(1, 12, 18, 2, 3, 36), 1, 2, true}, {numbers(36, 2, 12, 3, 18, 1), 1, 3, true}, {numbers(2, 1, 12, 36, 18, 3), 0, 5, true},
	} {
		if a, b, found, e := order.Gap(x.p); a != x.x || b != x.y || found != x.found || e != api.OK {
			t.Errorf("Gap of %s: %d, %d, %t, %d", text(x.p), a, b, found, e)
		}
	}
}

// joinElementsOf are the join elements by the definition.
func joinElementsOf(p order.Table) []int {
	var list []int
	for y := range p {
		below := 0
		for x := range p {
			if rightBelow(p, x, y) {
				below++
			}
		}
		if below == 1 {
			list = append(list, y)
		}
	}
	return list
}

func TestJoinElements(t *testing.T) {
	for _, p := range lattices(935, 150) {
		if l := got(t, "JoinElements", p, order.JoinElements); !slices.Equal(l, joinElementsOf(p)) {
			t.Errorf("JoinElements of %s: %v instead of %v", text(p), l, joinElementsOf(p))
		}
	}
	for _, x := range []struct {
		p    order.Table
		want string
	}{
		{chain(1), "[]"}, {chain(2), "[1]"}, {chain(4), "[1 2 3]"}, {turned(chain(4)), "[0 1 2]"}, {divisors(12), "[1 2 3]"}, {pentagon(2, 1), "[1 2 3]"}, {diamond(3), "[1 2 3]"}, {subsets(3), "[1 2 4]"}, {layers(1, 2, 1, 1), "[1 2 4]"}, {layers(1, 2, 1, 2, 1), "[1 2 4 5]"}, {divisors(96), "[1 2 3 5 7 9]"},
	} {
		if l := got(t, "JoinElements", x.p, order.JoinElements); fmt.Sprint(l) != x.want {
			t.Errorf("JoinElements of %s: %v", text(x.p), l)
		}
	}
}

// isDistributive tells whether a lattice is distributive by the definition.
func isDistributive(p order.Table) bool {
	joins, meets := make([][]int, len(p)), make([][]int, len(p))
	for x := range p {
		for y := range p {
			joins[x] = append(joins[x], joinOf(p, x, y))
			meets[x] = append(meets[x], meetOf(p, x, y))
		}
	}
	for x := range p {
		for y := range p {
			for z := range p {
				if meets[x][joins[y][z]] != joins[meets[x][y]][meets[x][z]] {
					return false
				}
			}
		}
	}
	return true
}

func TestBirkhoff(t *testing.T) {
	distributive, others := 0, 0
	for _, p := range lattices(936, 150) {
		l, e := order.Birkhoff(p)
		if !isDistributive(p) {
			others++
			if len(l) > 0 || e != api.ErrLattice {
				t.Errorf("Birkhoff of %s: %v, %d", text(p), l, e)
			}
			continue
		}
		distributive++
		want := make([]int, len(p))
		for x := range p {
			for k, join := range joinElementsOf(p) {
				if p[join][x] {
					want[x] += 1 << k
				}
			}
		}
		if !slices.Equal(l, want) || e != api.OK {
			t.Errorf("Birkhoff of %s: %v, %d instead of %v", text(p), l, e, want)
		}
	}
	if distributive < 400 || others < 200 {
		t.Errorf("%d distributive lattices, %d others", distributive, others)
	}
	for _, x := range []struct {
		p    order.Table
		want string
	}{
		{chain(1), "[0]"}, {chain(4), "[0 1 3 7]"}, {turned(chain(4)), "[7 6 4 0]"}, {divisors(12), "[0 1 2 5 3 7]"}, {subsets(3), "[0 1 2 3 4 5 6 7]"}, {chain(12), "[0 1 3 7 15 31 63 127 255 511 1023 2047]"},
	} {
		if l := got(t, "Birkhoff", x.p, order.Birkhoff); fmt.Sprint(l) != x.want {
			t.Errorf("Birkhoff of %s: %v", text(x.p), l)
		}
	}
	for _, p := range []order.Table{pentagon(2, 1), diamond(3), pentagon(5, 5), diamond(10), turned(pentagon(2, 1)), layers(1, 3, 1, 3, 1), relabeled(pentagon(2, 1), []int{4, 3, 2, 1, 0})} {
		if l, e := order.Birkhoff(p); len(l) > 0 || e != api.ErrLattice {
			t.Errorf("Birkhoff of %s: %v, %d", text(p), l, e)
		}
	}
}

// crosscutOf are Crosscut's numbers by the definition.
func crosscutOf(p order.Table) []int64 {
	var atoms []int
	for x := range p {
		if rightBelow(p, least(p), x) {
			atoms = append(atoms, x)
		}
	}
	list := make([]int64, len(atoms)+1)
	for set := range 1 << len(atoms) {
		join, size := least(p), 0
		for _, k := range elements(set) {
			join = joinOf(p, join, atoms[k])
			size++
		}
		if join == greatest(p) {
			list[size]++
		}
	}
	return list
}

func TestCrosscut(t *testing.T) {
	for _, p := range lattices(937, 150) {
		if l := got(t, "Crosscut", p, order.Crosscut); !slices.Equal(l, crosscutOf(p)) {
			t.Errorf("Crosscut of %s: %v instead of %v", text(p), l, crosscutOf(p))
		}
	}
	for _, x := range []struct {
		p    order.Table
		want string
	}{
		{chain(1), "[1]"}, {chain(2), "[0 1]"}, {turned(chain(2)), "[0 1]"}, {chain(3), "[0 0]"}, {chain(12), "[0 0]"}, {subsets(2), "[0 0 1]"}, {subsets(3), "[0 0 0 1]"}, {pentagon(2, 1), "[0 0 1]"}, {diamond(3), "[0 0 3 1]"}, {diamond(10), "[0 0 45 120 210 252 210 120 45 10 1]"}, {divisors(30), "[0 0 0 1]"}, {divisors(12), "[0 0 0]"}, {turned(divisors(36)), "[0 0 0]"},
	} {
		if l := got(t, "Crosscut", x.p, order.Crosscut); fmt.Sprint(l) != x.want {
			t.Errorf("Crosscut of %s: %v", text(x.p), l)
		}
	}
}

// Calls that need a lattice refuse other orders.
func TestNoLattices(t *testing.T) {
	for _, p := range noLattices(938, 300) {
		for name, r := range map[string]result{
			"JoinElements": list(order.JoinElements(p)),
			"Birkhoff":     list(order.Birkhoff(p)),
			"Crosscut":     list(order.Crosscut(p)),
			"Bad":          calls(0, 0)["Bad"](p),
		} {
			if !r.zero || r.e != api.ErrLattice {
				t.Errorf("%s of %s: %v", name, text(p), r)
			}
		}
	}
}
