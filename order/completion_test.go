package order_test

import (
	"fmt"
	"slices"
	"testing"

	"stadda/api"
	"stadda/order"
)

// P9.5: Completion.

// atMostAll are all elements that are at most all of the list.
func atMostAll(p order.Table, list []int) []int {
	var found []int
	for x := range p {
		if !slices.ContainsFunc(list, func(y int) bool { return !p[x][y] }) {
			found = append(found, x)
		}
	}
	return found
}

// setOf is the set of elements.
func setOf(list []int) int {
	set := 0
	for _, x := range list {
		set += 1 << x
	}
	return set
}

// completionOf are the elements of the completion by the definition.
func completionOf(p order.Table) []int {
	var list []int
	for set := range 1 << len(p) {
		if setOf(atMostAll(p, atMostAll(turned(p), elements(set)))) == set {
			list = append(list, set)
		}
	}
	return list
}

func TestCompletion(t *testing.T) {
	for _, p := range slices.Concat(small(4), known(), some(951, 5, 9, 80), some(952, 10, 12, 10)) {
		want := completionOf(p)
		sets, q, places, e := order.Completion(p)
		if !slices.Equal(sets, want) || !same(q, ordered(want)) || len(places) != len(p) || e != api.OK {
			t.Fatalf("Completion of %s: %v, %s, %v, %d instead of %v", text(p), sets, text(q), places, e, want)
		}
		for x, place := range places {
			if place < 0 || place >= len(sets) || sets[place] != setOf(atMostAll(p, []int{x})) {
				t.Errorf("Completion of %s: %v, %v", text(p), sets, places)
			}
		}
	}
}

func TestKnownCompletions(t *testing.T) {
	for _, x := range []struct {
		p            order.Table
		sets, places string
	}{
		{chain(1), "[1]", "[0]"}, {chain(3), "[1 3 7]", "[0 1 2]"}, {turned(chain(3)), "[4 6 7]", "[2 1 0]"}, {antichain(2), "[0 1 2 3]", "[1 2]"}, {antichain(3), "[0 1 2 4 7]", "[1 2 3]"}, {tree(3, 2), "[1 3 5 7]", "[0 1 2]"}, {turned(tree(3, 2)), "[0 2 4 7]", "[3 1 2]"}, {layers(2, 2), "[0 1 2 3 7 11 15]", "[1 2 4 5]"}, {pentagon(2, 1), "[1 3 7 9 31]", "[0 1 2 3 4]"}, {fence(4), "[0 1 4 7 12 15]", "[1 3 2 4]"},
	} {
		if sets, q, places, e := order.Completion(x.p); fmt.Sprint(sets) != x.sets || fmt.Sprint(places) != x.places || len(q) != len(sets) || e != api.OK {
			t.Errorf("Completion of %s: %v, %s, %v, %d", text(x.p), sets, text(q), places, e)
		}
	}
	for n := 3; n <= 6; n++ { // of a crown: as the sets of n elements
		sets, q, _, e := order.Completion(crown(n))
		if len(sets) != 1<<n || e != api.OK {
			t.Errorf("Completion of a crown of %d: %v, %d", 2*n, sets, e)
		}
		if check := order.Check(q); n < 4 && check != api.OK || n > 3 && check != api.ErrOrder {
			t.Errorf("Check of the completion of a crown of %d: %d", 2*n, check)
		}
	}
	for n := 2; n <= 12; n++ {
		if sets, q, places, e := order.Completion(antichain(n)); len(sets) != n+2 || len(q) != n+2 || len(places) != n || e != api.OK {
			t.Errorf("Completion of %d elements: %v, %v, %d", n, sets, places, e)
		}
	}
}
