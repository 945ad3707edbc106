package shat_test

import (
	"slices"
	"testing"

	"stadda/api"
	"stadda/shat"
)

// P8.1: Trace, Shattered, Dimension.

// traceOf is the trace of a family on m by the definition.
func traceOf(f family, m int) []int {
	var list []int
	for _, s := range f.l {
		common := 0
		for _, i := range elements(m) {
			if slices.Contains(elements(s), i) {
				common += 1 << i
			}
		}
		list = append(list, common)
	}
	return sorted(list)
}

// shatteredOf are the shattered sets: those whose trace has as many sets as there are within them.
func shatteredOf(f family) []int {
	var list []int
	for m := range 1 << f.n {
		if len(f.l) >= 1<<ones(m) && len(traceOf(f, m)) == 1<<ones(m) {
			list = append(list, m)
		}
	}
	return list
}

func TestTrace(t *testing.T) {
	for _, f := range families(821, 7, 40) {
		for m := range 1 << f.n {
			if l, e := shat.Trace(f.n, f.l, m); !slices.Equal(l, traceOf(f, m)) || e != api.OK {
				t.Errorf("Trace of %v on %d: %v, %d", f, m, l, e)
			}
		}
	}
	for _, f := range dense(822, 8, 10, 10) {
		for m := 1; m < 1<<f.n; m += 37 {
			if l, e := shat.Trace(f.n, f.l, m); !slices.Equal(l, traceOf(f, m)) || e != api.OK {
				t.Errorf("Trace of %v on %d: %v, %d", f, m, l, e)
			}
		}
	}
}

func TestNoTrace(t *testing.T) {
	for _, f := range families(823, 10, 10) {
		for _, m := range append([]int{-1, -2, -1 << f.n, 1 << f.n, 1<<f.n + 1, 2 << f.n}, extremes...) {
			if l, e := shat.Trace(f.n, f.l, m); len(l) > 0 || e != api.ErrArg {
				t.Errorf("Trace of %v on %d: %v, %d", f, m, l, e)
			}
		}
	}
}

func TestShattered(t *testing.T) {
	for _, f := range slices.Concat(families(824, 7, 60), some(825, 8, 10, 40, 10), dense(826, 8, 8, 3)) {
		want := shatteredOf(f)
		if l := got(t, "Shattered", f, shat.Shattered); !slices.Equal(l, want) {
			t.Errorf("Shattered of %v: %v instead of %v", f, l, want)
		}
		dimension, at := -1, 0
		for _, m := range want {
			if ones(m) > dimension {
				dimension, at = ones(m), m
			}
		}
		if d, m, e := shat.Dimension(f.n, f.l); d != dimension || m != at || e != api.OK {
			t.Errorf("Dimension of %v: %d, %d, %d instead of %d, %d", f, d, m, e, dimension, at)
		}
	}
}

func TestKnownDimensions(t *testing.T) {
	for n := range 11 {
		for k := range n + 1 {
			for name, x := range map[string]struct {
				f    family
				d, m int
			}{
				"all":       {where(n, func(int) bool { return true }), n, 1<<n - 1},
				"few":       {where(n, func(s int) bool { return ones(s) <= k }), k, 1<<k - 1},
				"many":      {where(n, func(s int) bool { return ones(s) >= k }), n - k, 1<<(n-k) - 1},
				"so many":   {where(n, func(s int) bool { return ones(s) == k }), min(k, n-k), 1<<min(k, n-k) - 1},
				"chain":     {where(n, func(s int) bool { return s&(s+1) == 0 }), min(1, n), min(1, n)},
				"intervals": {where(n, isInterval), min(2, n), 1<<min(2, n) - 1},
				"one":       {where(n, func(s int) bool { return s == 1<<k-1 }), 0, 0},
				"none":      {family{n, nil}, -1, 0},
				"within":    {where(n, func(s int) bool { return s%(1<<k) == 0 }), n - k, (1<<(n-k) - 1) << k},
			} {
				if d, m, e := shat.Dimension(x.f.n, x.f.l); d != x.d || m != x.m || e != api.OK {
					t.Errorf("Dimension of %s, %d, %d: %d, %d, %d instead of %d, %d", name, n, k, d, m, e, x.d, x.m)
				}
			}
		}
	}
}
