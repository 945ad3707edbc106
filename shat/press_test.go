package shat_test

import (
	"slices"
	"testing"

	"stadda/api"
	"stadda/shat"
)

// P8.2: Press, Down, Closure.

// pressOf is the family pressed at i by the definition.
func pressOf(f family, i int) family {
	p := family{n: f.n}
	for _, s := range f.l {
		if slices.Contains(elements(s), i) && !slices.Contains(f.l, s-1<<i) {
			s -= 1 << i
		}
		p.l = append(p.l, s)
	}
	slices.Sort(p.l)
	return p
}

// downOf is the family pressed again and again.
func downOf(f family) family {
	for {
		before := f.l
		for i := range f.n {
			f = pressOf(f, i)
		}
		if slices.Equal(f.l, before) {
			return f
		}
	}
}

// closureOf are the sets of which one of the family is within, or the other way round.
func closureOf(f family, upward bool) []int {
	return where(f.n, func(s int) bool {
		return slices.ContainsFunc(f.l, func(x int) bool { return upward && isWithin(x, s) || !upward && isWithin(s, x) })
	}).l
}

func TestPress(t *testing.T) {
	for _, f := range slices.Concat(families(831, 7, 60), some(832, 8, 10, 60, 20), dense(833, 8, 10, 5)) {
		for i := range f.n {
			if l, e := shat.Press(f.n, f.l, i); !slices.Equal(l, pressOf(f, i).l) || e != api.OK {
				t.Errorf("Press of %v at %d: %v, %d", f, i, l, e)
			}
		}
	}
}

func TestNoPress(t *testing.T) {
	for _, f := range families(834, 10, 10) {
		for _, i := range append([]int{-1, -2, -f.n - 1, f.n, f.n + 1, 10, 11, 63, 64, 65}, extremes...) {
			if l, e := shat.Press(f.n, f.l, i); len(l) > 0 || e != api.ErrArg {
				t.Errorf("Press of %v at %d: %v, %d", f, i, l, e)
			}
		}
	}
}

func TestDown(t *testing.T) {
	for _, f := range slices.Concat(families(835, 7, 100), some(836, 8, 10, 60, 20), dense(837, 8, 10, 5)) {
		want := downOf(f).l
		if l := got(t, "Down", f, shat.Down); !slices.Equal(l, want) {
			t.Errorf("Down of %v: %v instead of %v", f, l, want)
		}
	}
}

func TestClosure(t *testing.T) {
	for _, f := range slices.Concat(families(838, 6, 60), some(839, 7, 10, 30, 20)) {
		for _, upward := range []bool{false, true} {
			if c := closed(t, f, upward); !slices.Equal(c.l, closureOf(f, upward)) {
				t.Errorf("Closure of %v, %t: %v", f, upward, c)
			}
		}
	}
	for n := range 11 {
		all := where(n, func(int) bool { return true })
		for _, f := range []family{{n, []int{0}}, {n, []int{1<<n - 1}}, all} {
			for _, upward := range []bool{false, true} {
				want := all.l
				if len(f.l) == 1 && (f.l[0] == 0) != upward {
					want = f.l
				}
				if c := closed(t, f, upward); !slices.Equal(c.l, want) {
					t.Errorf("Closure of %v, %t: %v", f, upward, c)
				}
			}
		}
	}
}
