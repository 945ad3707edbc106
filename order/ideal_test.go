package order_test

import (
	"fmt"
	"slices"
	"testing"

	"stadda/api"
	"stadda/order"
)

// P9.3: Ideals, IdealOrder.

func TestIdeals(t *testing.T) {
	few, many := 0, 0
	for _, p := range orders(921, 150) {
		want := idealsOf(p)
		if l := got(t, "Ideals", p, order.Ideals); !slices.Equal(l, want) {
			t.Errorf("Ideals of %s: %v instead of %v", text(p), l, want)
		}
		q, e := order.IdealOrder(p)
		if len(want) > 12 {
			many++
			if len(q) > 0 || e != api.ErrArg {
				t.Errorf("IdealOrder of %s: %s, %d", text(p), text(q), e)
			}
			continue
		}
		few++
		if !same(q, ordered(want)) || e != api.OK {
			t.Errorf("IdealOrder of %s: %s, %d", text(p), text(q), e)
		}
	}
	if few < 100 || many < 100 {
		t.Errorf("%d orders with few ideals, %d with many", few, many)
	}
}

func TestKnownIdeals(t *testing.T) {
	before, count := 1, 2 // Fibonacci's numbers
	for n := 1; n <= 12; n++ {
		for name, x := range map[string]struct {
			p    order.Table
			want int
		}{
			"antichain": {antichain(n), 1 << n}, "chain": {chain(n), n + 1}, "fence": {fence(n), count}, "other fence": {turned(fence(n)), count},
		} {
			if l := got(t, "Ideals", x.p, order.Ideals); len(l) != x.want || l[0] != 0 || l[len(l)-1] != 1<<n-1 {
				t.Errorf("Ideals of a %s of %d: %v", name, n, l)
			}
		}
		before, count = count, before+count
	}
	for _, x := range []struct {
		p    order.Table
		want string
	}{
		{chain(1), "[0 1]"}, {chain(3), "[0 1 3 7]"}, {turned(chain(3)), "[0 4 6 7]"}, {antichain(2), "[0 1 2 3]"}, {tree(3, 2), "[0 1 3 5 7]"}, {turned(tree(3, 2)), "[0 2 4 6 7]"}, {pentagon(2, 1), "[0 1 3 7 9 11 15 31]"},
	} {
		if l := got(t, "Ideals", x.p, order.Ideals); fmt.Sprint(l) != x.want {
			t.Errorf("Ideals of %s: %v", text(x.p), l)
		}
	}
	for p, want := range map[string]int{text(subsets(3)): 20, text(grid(3, 3)): 20, text(grid(3, 4)): 35, text(layers(6, 6)): 127, text(diamond(10)): 1026} {
		if l := got(t, "Ideals", table(p), order.Ideals); len(l) != want {
			t.Errorf("%d ideals of %s", len(l), p)
		}
	}
}

// An order may have 12 ideals, but not 13.
func TestIdealOrderAtTheLimit(t *testing.T) {
	for _, x := range []struct {
		p     order.Table
		count int
	}{
		{chain(11), 12}, {chain(12), 13}, {turned(chain(12)), 13}, {apart(chain(1), chain(5)), 12}, {apart(chain(2), chain(3)), 12}, {apart(antichain(2), chain(2)), 12}, {antichain(3), 8}, {antichain(4), 16}, {fence(5), 13}, {antichain(12), 4096}, {layers(3, 2), 11}, {layers(3, 2, 1), 12}, {layers(3, 2, 1, 1), 13},
	} {
		p, e := order.IdealOrder(x.p)
		if n := len(idealsOf(x.p)); n != x.count {
			t.Errorf("%s has %d ideals", text(x.p), n)
		}
		if x.count <= 12 && (len(p) != x.count || e != api.OK || order.Check(p) != api.OK) || x.count > 12 && (len(p) > 0 || e != api.ErrArg) {
			t.Errorf("IdealOrder of %s: %s, %d", text(x.p), text(p), e)
		}
	}
	if p, e := order.IdealOrder(antichain(2)); text(p) != "1111 0101 0011 0001" || e != api.OK {
		t.Errorf("IdealOrder: %s, %d", text(p), e)
	}
}
