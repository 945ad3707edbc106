package shat_test

import (
	"slices"
	"testing"

	"stadda/api"
	"stadda/chance"
	"stadda/shat"
)

// P8.4: Crossing, Extend, Antichain.

// pairOf are the first two sets a, b of all that are as is says, and false, or 0, 0 and true.
func pairOf(f family, is func(a, b int) bool) (int, int, bool) {
	for _, a := range f.l {
		for _, b := range f.l {
			if a <= b && is(a, b) {
				return a, b, false
			}
		}
	}
	return 0, 0, true
}

func checkPair(t *testing.T, name string, f family, call func(int, []int) (int, int, bool, api.Errno), is func(a, b int) bool) bool {
	t.Helper()
	a, b, ok := pairOf(f, is)
	if x, y, o, e := call(f.n, f.l); x != a || y != b || o != ok || e != api.OK {
		t.Errorf("%s of %v: %d, %d, %t, %d instead of %d, %d, %t", name, f, x, y, o, e, a, b, ok)
	}
	return ok
}

// crossings are crossing families for numbers from one to another one.
func crossings(s chance.Source, from, to, count int) []family {
	var list []family
	for range count {
		f := family{n: s.From(from, to)}
		for range s.Below(40) {
			x := 1 + s.Below(1<<f.n-1)
			if !slices.ContainsFunc(f.l, func(y int) bool { return x&y == 0 }) {
				f.l = append(f.l, x)
			}
		}
		f.l = sorted(f.l)
		list = append(list, f)
	}
	return list
}

func TestCrossing(t *testing.T) {
	for _, f := range slices.Concat(families(851, 8, 100), crossings(852, 1, 10, 200)) {
		checkPair(t, "Crossing", f, shat.Crossing, func(a, b int) bool { return len(sorted(append(elements(a), elements(b)...))) == ones(a)+ones(b) })
	}
}

func TestKnownCrossings(t *testing.T) {
	for _, x := range []struct {
		n    int
		l    []int
		a, b int
		ok   bool
	}{
		{0, nil, 0, 0, true}, {0, []int{0}, 0, 0, false}, {10, nil, 0, 0, true}, {1, []int{0, 1}, 0, 0, false}, {1, []int{1}, 0, 0, true}, {2, []int{1, 2}, 1, 2, false}, {2, []int{1, 3}, 0, 0, true}, {3, []int{3, 5, 6}, 0, 0, true}, {3, []int{1, 3, 4, 6}, 1, 4, false}, {3, []int{3, 4, 5}, 3, 4, false}, {3, []int{2, 3, 4, 5}, 2, 4, false}, {10, []int{511, 512}, 511, 512, false}, {10, []int{511, 513, 1022, 1023}, 0, 0, true},
	} {
		if a, b, ok, e := shat.Crossing(x.n, x.l); a != x.a || b != x.b || ok != x.ok || e != api.OK {
			t.Errorf("Crossing of %v: %d, %d, %t, %d", x, a, b, ok, e)
		}
	}
}

func checkExtension(t *testing.T, f family) {
	t.Helper()
	l, e := shat.Extend(f.n, f.l)
	if e != api.OK || len(l) != 1<<(f.n-1) || !slices.Equal(l, sorted(l)) || len(l) > 0 && (l[0] < 0 || l[len(l)-1] >= 1<<f.n) {
		t.Errorf("Extend of %v: %v, %d", f, l, e)
	}
	if a, b, ok := pairOf(family{f.n, l}, func(a, b int) bool { return a&b == 0 }); !ok {
		t.Errorf("Extend of %v: %d and %d do not cross", f, a, b)
	}
	for _, s := range f.l {
		if !slices.Contains(l, s) {
			t.Errorf("Extend of %v: %v does not have %d", f, l, s)
		}
	}
}

func TestExtend(t *testing.T) {
	extended := 0
	for _, f := range slices.Concat(families(853, 7, 100), crossings(854, 1, 10, 100)) {
		if _, _, ok := pairOf(f, func(a, b int) bool { return a&b == 0 }); ok && f.n > 0 {
			checkExtension(t, f)
			extended++
		} else if l, e := shat.Extend(f.n, f.l); len(l) > 0 || e != api.ErrNone {
			t.Errorf("Extend of %v: %v, %d", f, l, e)
		}
	}
	if extended < 200 {
		t.Errorf("%d families were extended", extended)
	}
}

func TestExtendAtTheLimits(t *testing.T) {
	for n := 1; n <= 10; n++ {
		checkExtension(t, family{n, nil})
		checkExtension(t, family{n, []int{1<<n - 1}})
		checkExtension(t, where(n, func(s int) bool { return s >= 1<<(n-1) }))
		checkExtension(t, where(n, func(s int) bool { return 2*ones(s) > n }))
		checkExtension(t, where(n, func(s int) bool { return s == 1<<(n-1) }))
	}
	for _, f := range []family{{0, nil}, {0, []int{0}}, {1, []int{0}}, {1, []int{0, 1}}, {10, []int{0}}, {10, []int{511, 512}}} {
		if l, e := shat.Extend(f.n, f.l); len(l) > 0 || e != api.ErrNone {
			t.Errorf("Extend of %v: %v, %d", f, l, e)
		}
	}
}

func TestAntichain(t *testing.T) {
	antichains := 0
	for _, f := range slices.Concat(families(855, 8, 100), some(856, 5, 10, 6, 300)) {
		if checkPair(t, "Antichain", f, shat.Antichain, func(a, b int) bool { return a != b && isWithin(a, b) }) {
			antichains++
		}
	}
	if antichains < 100 {
		t.Errorf("%d antichains", antichains)
	}
}

func TestKnownAntichains(t *testing.T) {
	for _, x := range []struct {
		n    int
		l    []int
		a, b int
		ok   bool
	}{
		{0, nil, 0, 0, true}, {0, []int{0}, 0, 0, true}, {1, []int{0, 1}, 0, 1, false}, {3, []int{1, 4, 6}, 4, 6, false}, {3, []int{1, 2, 4}, 0, 0, true}, {3, []int{3, 4, 7}, 3, 7, false}, {3, []int{1, 2, 6, 7}, 1, 7, false}, {3, []int{3, 5, 6}, 0, 0, true}, {3, []int{6, 7}, 6, 7, false}, {10, []int{511, 1022, 1023}, 511, 1023, false},
	} {
		if a, b, ok, e := shat.Antichain(x.n, x.l); a != x.a || b != x.b || ok != x.ok || e != api.OK {
			t.Errorf("Antichain of %v: %d, %d, %t, %d", x, a, b, ok, e)
		}
	}
}
