package shat_test

import (
	"math/big"
	"slices"
	"testing"

	"stadda/api"
	"stadda/chance"
	"stadda/num"
	"stadda/shat"
)

// P8.4: Lubell. P8.5: Cross, Weight.

// sumOf is the sum of 1 / C(n, k) over a list of n and k.
func sumOf(list [][2]int) string {
	sum := new(big.Rat)
	for _, l := range list {
		sum.Add(sum, big.NewRat(1, int64(choose(l[0], l[1]))))
	}
	return sum.RatString()
}

func TestLubell(t *testing.T) {
	for _, f := range families(861, 10, 60) {
		var list [][2]int
		for _, s := range f.l {
			list = append(list, [2]int{f.n, ones(s)})
		}
		if r := got(t, "Lubell", f, shat.Lubell); r.String() != sumOf(list) {
			t.Errorf("Lubell of %v: %s instead of %s", f, r, sumOf(list))
		}
	}
	for n := range 11 {
		all := where(n, func(int) bool { return true })
		if r := got(t, "Lubell", all, shat.Lubell); r.Cmp(num.Of(int64(n+1))) != 0 {
			t.Errorf("Lubell of all sets for %d: %s", n, r)
		}
		if r := got(t, "Lubell", family{n, nil}, shat.Lubell); r.Sign() != 0 {
			t.Errorf("Lubell of no sets for %d: %s", n, r)
		}
	}
}

// somePairs are so many pairs of sets of up to n elements, without a common one.
func somePairs(s *chance.Source, n, count int) [][2]int {
	pairs := make([][2]int, count)
	for i := range pairs {
		for e := range n {
			if side := s.Below(3); side < 2 {
				pairs[i][side] |= 1 << e
			}
		}
	}
	return pairs
}

// halves are all pairs of a set of k elements and the set of all others, of n.
func halves(n, k int) [][2]int {
	var pairs [][2]int
	for s := range 1 << n {
		if ones(s) == k {
			pairs = append(pairs, [2]int{s, 1<<n - 1 - s})
		}
	}
	return pairs
}

// crossPairs are pairs that cross.
func crossPairs(s *chance.Source) [][2]int {
	var pairs [][2]int
	n := s.From(2, 10)
	for range 200 {
		if p := append(slices.Clone(pairs), somePairs(s, n, 1)...); crossOf(p) == [2]int{} {
			pairs = p
		}
	}
	return pairs
}

// crossOf are the first two indices of pairs that do not cross, or 0, 0.
func crossOf(pairs [][2]int) [2]int {
	for i, p := range pairs {
		for k, q := range pairs {
			if i < k && (p[0]&q[1] == 0 || q[0]&p[1] == 0) {
				return [2]int{i, k}
			}
		}
	}
	return [2]int{}
}

func checkPairs(t *testing.T, pairs [][2]int) {
	t.Helper()
	want := crossOf(pairs)
	if i, k, ok, e := shat.Cross(pairs); i != want[0] || k != want[1] || ok != (want == [2]int{}) || e != api.OK {
		t.Errorf("Cross of %v: %d, %d, %t, %d instead of %v", pairs, i, k, ok, e, want)
	}
	var list [][2]int
	for _, p := range pairs {
		list = append(list, [2]int{ones(p[0]) + ones(p[1]), ones(p[0])})
	}
	if r, e := shat.Weight(pairs); r.String() != sumOf(list) || e != api.OK {
		t.Errorf("Weight of %v: %s, %d instead of %s", pairs, r, e, sumOf(list))
	}
}

func TestPairs(t *testing.T) {
	s := chance.Source(862)
	for range 500 {
		n := s.From(0, 10)
		checkPairs(t, somePairs(&s, n, s.Below(8)))
		checkPairs(t, somePairs(&s, n, s.Below(101)))
	}
	crossing := 0
	for range 200 {
		pairs := crossPairs(&s)
		checkPairs(t, pairs)
		crossing += len(pairs)
		if pairs = append(pairs, somePairs(&s, 4, 2)...); len(pairs) <= 100 {
			checkPairs(t, pairs)
		}
	}
	if crossing < 600 {
		t.Errorf("%d pairs cross", crossing)
	}
	for n := range 9 {
		for k := range n + 1 {
			checkPairs(t, halves(n, k))
		}
	}
}

func TestAllPairsOfTwoElements(t *testing.T) {
	var all [][2]int
	for a := range 4 {
		for b := range 4 {
			if a&b == 0 {
				all = append(all, [2]int{a, b})
			}
		}
	}
	checkPairs(t, all)
	for _, p := range all {
		checkPairs(t, [][2]int{p})
		for _, q := range all {
			checkPairs(t, [][2]int{p, q})
			for _, r := range all {
				checkPairs(t, [][2]int{p, q, r})
			}
		}
	}
}

func TestKnownPairs(t *testing.T) {
	for _, x := range []struct {
		pairs  [][2]int
		i, k   int
		ok     bool
		weight string
	}{
		{nil, 0, 0, true, "0"}, {[][2]int{{0, 0}}, 0, 0, true, "1"}, {[][2]int{{1, 2}}, 0, 0, true, "1/2"}, {[][2]int{{0, 0}, {0, 0}}, 0, 1, false, "2"}, {[][2]int{{1, 2}, {2, 1}}, 0, 0, true, "1"}, {[][2]int{{1, 2}, {2, 1}, {1, 2}}, 0, 2, false, "3/2"}, {[][2]int{{1, 2}, {2, 1}, {0, 0}}, 0, 2, false, "2"}, {[][2]int{{0, 1023}, {1023, 0}}, 0, 1, false, "2"},
		{[][2]int{{31, 992}}, 0, 0, true, "1/252"}, {[][2]int{{1, 6}, {2, 5}, {4, 3}}, 0, 0, true, "1"}, {[][2]int{{3, 4}, {5, 2}, {6, 1}}, 0, 0, true, "1"}, {[][2]int{{1, 6}, {2, 1}, {4, 3}}, 1, 2, false, "7/6"}, {[][2]int{{1, 6}, {2, 5}, {4, 1}}, 1, 2, false, "7/6"},
	} {
		if i, k, ok, e := shat.Cross(x.pairs); i != x.i || k != x.k || ok != x.ok || e != api.OK {
			t.Errorf("Cross of %v: %d, %d, %t, %d", x.pairs, i, k, ok, e)
		}
		if r, e := shat.Weight(x.pairs); r.String() != x.weight || e != api.OK {
			t.Errorf("Weight of %v: %s, %d", x.pairs, r, e)
		}
	}
}

func checkNoPairs(t *testing.T, pairs [][2]int, want api.Errno) {
	t.Helper()
	if i, k, ok, e := shat.Cross(pairs); i != 0 || k != 0 || ok || e != want {
		t.Errorf("Cross of %d pairs: %d, %d, %t, %d", len(pairs), i, k, ok, e)
	}
	if r, e := shat.Weight(pairs); r.Cmp(num.Rat{}) != 0 || e != want {
		t.Errorf("Weight of %d pairs: %s, %d", len(pairs), r, e)
	}
}

func TestNoPairs(t *testing.T) {
	bad := [][2]int{{1, 1}, {1023, 1023}, {1, 3}, {3, 1}, {5, 6}, {512, 513}, {1023, 4}, {-1, 0}, {0, -1}, {-1, -1}, {-2, 1}, {1, -2}, {1024, 0}, {0, 1024}, {1024, 1}, {2, 1024}}
	for _, x := range extremes {
		bad = append(bad, [2]int{x, 0}, [2]int{0, x}, [2]int{x, 1}, [2]int{1, x}, [2]int{x, x}, [2]int{x, ^x})
	}
	s := chance.Source(863)
	for _, p := range bad {
		checkNoPairs(t, [][2]int{p}, api.ErrArg)
		pairs := somePairs(&s, 10, 100)
		for _, i := range []int{0, 50, 99} {
			l := slices.Clone(pairs)
			l[i] = p
			checkNoPairs(t, l, api.ErrArg)
			checkNoPairs(t, append(l, [2]int{1, 2}), api.ErrLong)
		}
	}
	for _, n := range []int{101, 102, 200, 1000, 1 << 20} {
		checkNoPairs(t, make([][2]int, n), api.ErrLong)
		checkNoPairs(t, somePairs(&s, 10, n), api.ErrLong)
	}
	checkPairs(t, somePairs(&s, 10, 100))
	checkPairs(t, make([][2]int, 100))
}
