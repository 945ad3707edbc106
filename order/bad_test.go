package order_test

import (
	"slices"
	"testing"

	"stadda/api"
	"stadda/chance"
	"stadda/order"
)

// P9.4: Bad, IsBad.

// isBad tells whether five elements of a lattice are a bad five by the definition.
func isBad(p order.Table, five [5]int) bool {
	for i, x := range five {
		if x < 0 || x >= len(p) || slices.Contains(five[:i], x) {
			return false
		}
	}
	o, a, b, c, i := five[0], five[1], five[2], five[3], five[4]
	ac := joinOf(p, a, c) == i && meetOf(p, a, c) == o
	bc := joinOf(p, b, c) == i && meetOf(p, b, c) == o
	ab := joinOf(p, a, b) == i && meetOf(p, a, b) == o
	isPentagon := p[a][b] && ac && bc
	isDiamond := ab && ac && bc
	return isPentagon || isDiamond
}

// fives yields all lists of five numbers from a to b.
func fives(a, b int) func(yield func([5]int) bool) {
	return func(yield func([5]int) bool) {
		five := [5]int{a, a, a, a, a}
		for {
			if !yield(five) {
				return
			}
			at := 0
			for ; at < 5 && five[at] == b; at++ {
				five[at] = a
			}
			if at == 5 {
				return
			}
			five[at]++
		}
	}
}

// hasBad tells whether a lattice has a bad five.
func hasBad(p order.Table) bool {
	for a := range p {
		for b := range p {
			for c := range p {
				if isBad(p, [5]int{meetOf(p, a, c), a, b, c, joinOf(p, a, c)}) {
					return true
				}
			}
		}
	}
	return false
}

func TestBad(t *testing.T) {
	count := map[bool]int{}
	for _, p := range lattices(941, 60) {
		want := hasBad(p)
		count[want]++
		five, ok, e := order.Bad(p)
		if ok != want || e != api.OK || !want && five != [5]int{} || want && !isBad(p, five) || order.IsBad(p, five) != want {
			t.Errorf("Bad of %s: %v, %t, %d", text(p), five, ok, e)
		}
	}
	if count[true] < 150 || count[false] < 300 {
		t.Errorf("lattices with a bad five, and others: %v", count)
	}
	for _, x := range []struct {
		p    order.Table
		want bool
	}{
		{chain(1), false}, {chain(12), false}, {subsets(3), false}, {divisors(12), false}, {divisors(96), false}, {grid(3, 4), false}, {diamond(2), false}, {pentagon(1, 1), false}, {layers(1, 2, 1, 2, 1), false}, {pentagon(2, 1), true}, {pentagon(1, 2), true}, {pentagon(5, 5), true}, {diamond(3), true}, {diamond(10), true}, {turned(pentagon(2, 1)), true}, {layers(1, 2, 1, 3, 1), true}, {layers(1, 1, 1, 1, 1, 1, 1, 3, 1), true}, {layers(1, 3, 1, 1, 1, 1, 1, 1, 1), true},
	} {
		if five, ok, e := order.Bad(x.p); ok != x.want || x.want && !isBad(x.p, five) || !x.want && five != [5]int{} || e != api.OK {
			t.Errorf("Bad of %s: %v, %t, %d", text(x.p), five, ok, e)
		}
	}
}

// All fives of small lattices.
func TestIsBadOfAllFives(t *testing.T) {
	pentagons, diamonds := 0, 0
	s := chance.Source(942)
	for _, p := range []order.Table{chain(1), chain(3), chain(5), subsets(2), pentagon(2, 1), turned(pentagon(2, 1)), relabeled(pentagon(2, 1), shuffled(&s, 5)), relabeled(diamond(3), shuffled(&s, 5)), diamond(3), diamond(4), pentagon(3, 1), pentagon(2, 2), divisors(12), layers(1, 1, 3, 1), layers(1, 3, 1, 1), layers(1, 2, 1, 1)} {
		for five := range fives(-1, len(p)) {
			want := isBad(p, five)
			if order.IsBad(p, five) != want {
				t.Errorf("IsBad of %s, %v: %t", text(p), five, !want)
			}
			if want && p[five[1]][five[2]] {
				pentagons++
			} else if want {
				diamonds++
			}
		}
	}
	if pentagons < 10 || diamonds < 20 {
		t.Errorf("%d pentagons, %d diamonds", pentagons, diamonds)
	}
}

func TestIsBad(t *testing.T) {
	s := chance.Source(943)
	bad := 0
	for _, p := range lattices(944, 30) {
		n := len(p)
		for range 100 {
			five := [5]int{s.Below(n), s.Below(n), s.Below(n), s.Below(n), s.Below(n)}
			if s.Below(3) > 0 {
				five[0], five[4] = meetOf(p, five[1], five[3]), joinOf(p, five[1], five[3])
			}
			if is := order.IsBad(p, five); is != isBad(p, five) {
				t.Errorf("IsBad of %s, %v: %t", text(p), five, is)
			} else if is {
				bad++
			}
		}
	}
	if bad < 100 {
		t.Errorf("%d bad fives", bad)
	}
	for _, x := range extremes {
		for i := range 5 {
			p, five := pentagon(2, 1), [5]int{0, 1, 2, 3, 4}
			five[i] = x
			if order.IsBad(p, five) {
				t.Errorf("IsBad of %s, %v", text(p), five)
			}
			five[i] = i + x
			if order.IsBad(p, five) {
				t.Errorf("IsBad of %s, %v", text(p), five)
			}
		}
		if order.IsBad(pentagon(2, 1), [5]int{x, x, x, x, x}) {
			t.Errorf("IsBad of %d", x)
		}
	}
}

// What would be a bad five of a part is none of an order that is no lattice.
func TestIsBadOfNoLattice(t *testing.T) {
	five := [5]int{0, 1, 2, 3, 4}
	for _, p := range []order.Table{pentagon(2, 1), diamond(3)} {
		if !order.IsBad(p, five) || order.IsBad(apart(p, chain(1)), five) || order.IsBad(layers(1, 2, 2, 1), five) {
			t.Errorf("IsBad of %s", text(p))
		}
		above := where(7, func(x, y int) bool { return x < 5 && y < 5 && p[x][y] || x < 5 && y >= 5 })
		if order.IsBad(above, five) {
			t.Errorf("IsBad of %s", text(above))
		}
	}
	for _, p := range noLattices(945, 50) {
		for five := range fives(0, 1) {
			if order.IsBad(p, five) {
				t.Errorf("IsBad of %s, %v", text(p), five)
			}
		}
	}
}
