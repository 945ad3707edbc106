package shat_test

import (
	"slices"
	"testing"

	"stadda/api"
	"stadda/chance"
	"stadda/num"
	"stadda/shat"
)

// P8.7, P8.8, P8.9, P8.10.

// Pajor, Sauer, Shelah.
func TestFamiliesAndWhatTheyShatter(t *testing.T) {
	for _, f := range slices.Concat(families(871, 9, 60), small(4)[20000:25000]) {
		shattered := got(t, "Shattered", f, shat.Shattered)
		d, _, _ := shat.Dimension(f.n, f.l)
		most := 0
		for k := range d + 1 {
			most += choose(f.n, k)
		}
		if len(f.l) > len(shattered) || len(f.l) > most {
			t.Errorf("%v: %d sets of dimension %d shatter %v", f, len(f.l), d, shattered)
		}
		for i := range f.n {
			l, _ := shat.Press(f.n, f.l, i)
			after := got(t, "Shattered", family{f.n, l}, shat.Shattered)
			if len(l) != len(f.l) || slices.ContainsFunc(after, func(m int) bool { return !slices.Contains(shattered, m) }) {
				t.Errorf("Press of %v at %d: %v shatters %v", f, i, l, after)
			}
		}
		down := family{f.n, got(t, "Down", f, shat.Down)}
		if len(down.l) != len(f.l) || !slices.Equal(closed(t, down, false).l, down.l) || !slices.Equal(got(t, "Shattered", down, shat.Shattered), down.l) {
			t.Errorf("Down of %v: %v", f, down)
		}
	}
}

// someOf are so many of the sets of l.
func someOf(s *chance.Source, l []int, count int) []int {
	l = slices.Clone(l)
	for len(l) > count {
		at := s.Below(len(l))
		l = slices.Delete(l, at, at+1)
	}
	return l
}

// Erdos, Rado.
func TestManySetsHaveAFlower(t *testing.T) {
	s := chance.Source(872)
	for size, count := 1, 1; size <= 3; size++ {
		count *= size
		all := where(10, func(s int) bool { return ones(s) <= size })
		for k := 1; k <= 5; k++ {
			most := count
			for range size {
				most *= k - 1
			}
			for range 100 {
				l := someOf(&s, all.l, most+1)
				if f, ok, e := shat.Flower(10, l, k); len(l) <= 60 && (!ok || !isFlowerOf(f) || len(f) != k || e != api.OK) {
					t.Errorf("Flower of %v, %d sets: %v, %t, %d", l, k, f, ok, e)
				}
			}
		}
	}
}

// Erdos, Ko, Rado.
func TestCrossingFamiliesAreHalfAtMost(t *testing.T) {
	crossing := 0
	for _, f := range slices.Concat(families(873, 8, 100), crossings(874, 1, 10, 100), small(4)[10000:40000]) {
		_, _, ok, e := shat.Crossing(f.n, f.l)
		if e != api.OK || ok && 2*len(f.l) > 1<<f.n {
			t.Errorf("Crossing of %v: %t, %d", f, ok, e)
		}
		if ok && 2*len(f.l) == 1<<f.n {
			crossing++
		}
	}
	if crossing < 10 {
		t.Errorf("%d crossing families are half of all sets", crossing)
	}
}

// Lubell, Bollobas.
func TestWeightsAreAtMostOne(t *testing.T) {
	one := num.Of(1)
	full := 0
	for _, f := range slices.Concat(families(875, 8, 100), some(876, 5, 10, 6, 300)) {
		_, _, ok, _ := shat.Antichain(f.n, f.l)
		if r := got(t, "Lubell", f, shat.Lubell); ok && r.Cmp(one) > 0 {
			t.Errorf("Lubell of %v: %s", f, r)
		} else if ok && r.Cmp(one) == 0 {
			full++
		}
	}
	s := chance.Source(877)
	for range 300 {
		pairs := crossPairs(&s)
		_, _, ok, _ := shat.Cross(pairs)
		if r, e := shat.Weight(pairs); !ok || r.Cmp(one) > 0 || e != api.OK {
			t.Errorf("Weight of %v, which cross: %t: %s, %d", pairs, ok, r, e)
		}
	}
	for n := range 9 {
		for k := range n + 1 {
			_, _, ok, _ := shat.Cross(halves(n, k))
			if r, e := shat.Weight(halves(n, k)); !ok || r.Cmp(one) != 0 || e != api.OK {
				t.Errorf("Weight of the halves %d, %d, which cross: %t: %s, %d", n, k, ok, r, e)
			}
		}
	}
	if full < 30 {
		t.Errorf("%d antichains with 1", full)
	}
}

// common is the number of sets that two families have in common.
func common(f, g family) int {
	n := 0
	for _, s := range f.l {
		if slices.Contains(g.l, s) {
			n++
		}
	}
	return n
}

// Kleitman.
func TestClosedFamiliesMeet(t *testing.T) {
	list := slices.Concat(some(878, 5, 5, 5, 30), some(879, 7, 7, 8, 30), some(880, 10, 10, 4, 12))
	for _, f := range list {
		up := closed(t, f, true)
		for _, g := range list {
			if g.n != f.n {
				continue
			}
			other, down := closed(t, g, true), closed(t, g, false)
			if common(up, other)<<f.n < len(up.l)*len(other.l) {
				t.Errorf("%v and %v: %d common sets upward", f, g, common(up, other))
			}
			if common(up, down)<<f.n > len(up.l)*len(down.l) {
				t.Errorf("%v and %v: %d common sets", f, g, common(up, down))
			}
		}
	}
}

// de Bruijn, Tengbergen, Kruyswijk.
func TestSymmetricChains(t *testing.T) {
	for n := range 11 {
		list, e := shat.Chains(n)
		if len(list) != choose(n, n/2) || e != api.OK {
			t.Errorf("Chains(%d): %d, %d", n, len(list), e)
		}
		var all []int
		for _, c := range list {
			k := ones(c[0])
			for i, s := range c {
				if ones(s) != k+i || !isWithin(c[0], s) || i > 0 && !isWithin(c[i-1], s) {
					t.Errorf("Chains(%d): %v", n, c)
				}
			}
			if k+len(c)-1 != n-k {
				t.Errorf("Chains(%d): %v", n, c)
			}
			all = append(all, c...)
		}
		if len(all) != 1<<n || len(sorted(all)) != 1<<n {
			t.Errorf("Chains(%d): %d sets", n, len(all))
		}
	}
}
