package order_test

import (
	"slices"
	"testing"

	"stadda/api"
	"stadda/chance"
	"stadda/order"
)

// P9.7, P9.8, P9.9.

// Rota.
func TestDifferencesUndoSums(t *testing.T) {
	s := chance.Source(971)
	for _, p := range orders(972, 300) {
		mu := got(t, "Moebius", p, order.Moebius)
		f := make([]int64, len(p))
		for x := range f {
			f[x] = int64(s.From(-80_000_000, 80_000_000))
		}
		g, e := order.Sums(p, f)
		back, other := order.Differences(p, g)
		if !slices.Equal(back, f) || e != api.OK || other != api.OK {
			t.Errorf("Differences of Sums of %s, %v: %v, then %v, %d, %d", text(p), f, g, back, e, other)
		}
		d, e := order.Differences(p, f)
		for y := range p {
			var sum int64
			for x := range p {
				sum += f[x] * int64(mu[x][y])
			}
			if d[y] != sum || e != api.OK {
				t.Errorf("Differences of %s, %v: %v, %d", text(p), f, d, e)
			}
		}
	}
}

// signed is the sum of the numbers, every other one with the sign turned.
func signed(list []int64) int64 {
	var sum int64
	for k, n := range list {
		if k%2 == 1 {
			n = -n
		}
		sum += n
	}
	return sum
}

// Hall.
func TestMoebiusCountsChains(t *testing.T) {
	for _, p := range orders(973, 200) {
		mu := got(t, "Moebius", p, order.Moebius)
		for x := range p {
			for y := range p {
				l, e := order.Chains(p, x, y)
				if signed(l) != int64(mu[x][y]) || e != api.OK {
					t.Errorf("Chains of %s, %d, %d: %v, %d, but %d", text(p), x, y, l, e, mu[x][y])
				}
			}
		}
	}
}

// Rota's crosscuts.
func TestMoebiusCountsAtoms(t *testing.T) {
	for _, p := range lattices(974, 150) {
		mu := got(t, "Moebius", p, order.Moebius)
		l := got(t, "Crosscut", p, order.Crosscut)
		if len(p) > 1 && signed(l) != int64(mu[least(p)][greatest(p)]) {
			t.Errorf("Crosscut of %s: %v, but %v", text(p), l, mu)
		}
	}
}

// Dedekind, Birkhoff: distributive just if there is no bad five.
func TestDistributiveLattices(t *testing.T) {
	count := map[bool]int{}
	for _, p := range lattices(975, 150) {
		_, bad, e := order.Bad(p)
		sets, other := order.Birkhoff(p)
		if e != api.OK || isDistributive(p) == bad || (other == api.OK) == bad {
			t.Errorf("%s: %t, %d; %v, %d", text(p), bad, e, sets, other)
		}
		count[bad]++
		if bad || len(p) == 1 {
			continue
		}
		joins := got(t, "JoinElements", p, order.JoinElements)
		ideals := got(t, "Ideals", relabeled(p, joins), order.Ideals)
		if !slices.Equal(sorted(sets), ideals) || len(sets) != len(ideals) {
			t.Errorf("Birkhoff of %s: %v, but the ideals of %v are %v", text(p), sets, joins, ideals)
		}
		for x := range p {
			for y := range p {
				if isWithin(sets[x], sets[y]) != p[x][y] {
					t.Errorf("Birkhoff of %s: %v", text(p), sets)
				}
			}
		}
	}
	if count[true] < 200 || count[false] < 400 {
		t.Errorf("lattices that are not distributive, and others: %v", count)
	}
}

// Birkhoff: an order is that of the join elements of its ideals.
func TestIdealsAreADistributiveLattice(t *testing.T) {
	checked := 0
	for _, p := range slices.Concat(orders(976, 300), some(977, 6, 11, 300)) {
		ideals := got(t, "Ideals", p, order.Ideals)
		q, e := order.IdealOrder(p)
		if len(ideals) > 12 {
			continue
		}
		checked++
		if sets, other := order.Birkhoff(q); e != api.OK || other != api.OK || len(sets) != len(ideals) {
			t.Errorf("IdealOrder of %s: %s, %d; %v, %d", text(p), text(q), e, sets, other)
		}
		joins := got(t, "JoinElements", q, order.JoinElements)
		var places []int // where the ideal of all that are at most an element is
		for x := range p {
			places = append(places, slices.Index(ideals, setOf(atMostAll(p, []int{x}))))
		}
		if !slices.Equal(sorted(places), joins) || len(joins) != len(p) || !same(relabeled(q, places), p) {
			t.Errorf("JoinElements of the ideals of %s: %v, not %v", text(p), joins, places)
		}
	}
	if checked < 150 {
		t.Errorf("%d orders", checked)
	}
}

// MacNeille.
func TestCompletionsAreLattices(t *testing.T) {
	large := 0
	for _, p := range slices.Concat(orders(978, 100), lattices(979, 30)) {
		sets, q, places, e := order.Completion(p)
		if e != api.OK || len(sets) > 1<<12 || !same(relabeled(q, places), p) {
			t.Errorf("Completion of %s: %v, %s, %v, %d", text(p), sets, text(q), places, e)
		}
		if is := isLattice(p); is && len(sets) != len(p) || !is && len(sets) <= len(p) {
			t.Errorf("Completion of %s, a lattice: %t: %v", text(p), is, sets)
		}
		if len(q) <= 12 {
			if _, _, found, e := order.Gap(q); found || e != api.OK {
				t.Errorf("Gap of %s: %t, %d", text(q), found, e)
			}
		} else if large++; !isLattice(q) {
			t.Errorf("Completion of %s: %s", text(p), text(q))
		}
	}
	if large < 30 {
		t.Errorf("%d large completions", large)
	}
}

// Tarski.
func TestFixedElementsAreALattice(t *testing.T) {
	s := chance.Source(980)
	count := map[int]int{}
	for _, p := range lattices(981, 100) {
		for range 5 {
			f := someMap(&s, p)
			l, e := order.Fixed(p, f)
			if len(l) == 0 || e != api.OK {
				t.Errorf("Fixed of %s, %v: %v, %d", text(p), f, l, e)
				continue
			}
			count[len(l)]++
			if _, _, ok, e := order.Lattice(relabeled(p, l)); !ok || e != api.OK {
				t.Errorf("Fixed of %s, %v: %v are no lattice", text(p), f, l)
			}
		}
	}
	for n := 1; n <= 8; n++ {
		if count[n] < 5 {
			t.Errorf("%d maps have %d fixed elements", count[n], n)
		}
	}
}

// Euler's number less 1 is Moebius's number from an element that is put below all others to one that is put above them.
func TestEulerCountsByMoebius(t *testing.T) {
	for _, p := range slices.Concat(small(4), some(982, 5, 10, 200)) {
		n := len(p)
		q := where(n+2, func(x, y int) bool { return x < n && y < n && p[x][y] || x == n || y == n+1 })
		mu := got(t, "Moebius", q, order.Moebius)
		if e := got(t, "Euler", p, order.Euler); e != int64(mu[n][n+1])+1 {
			t.Errorf("Euler of %s: %d, but %v", text(p), e, mu)
		}
	}
}
