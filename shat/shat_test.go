package shat_test

import (
	"slices"
	"testing"

	"stadda/api"
	"stadda/num"
	"stadda/shat"
)

// P8.1: Check; which error comes first. R4.

func TestCheck(t *testing.T) {
	for _, f := range families(811, 10, 200) {
		if e := shat.Check(f.n, f.l); e != api.OK {
			t.Errorf("Check of %v: %d", f, e)
		}
	}
	for want, list := range noFamilies() {
		for _, f := range list {
			if e := shat.Check(f.n, f.l); e != want {
				t.Errorf("Check for %d of %d sets: %d instead of %d", f.n, len(f.l), e, want)
			}
		}
	}
}

// Where a set is out of its place, the list is no family.
func TestCheckFindsEachPlace(t *testing.T) {
	for n := 1; n < 7; n++ {
		all := where(n, func(int) bool { return true }).l
		for i := range all {
			for _, s := range []int{-1, 0, 1, 1<<n - 1, 1 << n, all[i] - 1, all[i] + 1} {
				l := slices.Clone(all)
				l[i] = s
				want := api.ErrFamily
				if s == i {
					want = api.OK
				}
				if e := shat.Check(n, l); e != want {
					t.Errorf("Check of %v: %d", l, e)
				}
			}
		}
	}
}

// result is what a call returned: lists of it, whether the rest is zero, and the error.
type result struct {
	lists [][]int
	zero  bool
	e     api.Errno
}

// calls are all calls that take a family and return an error, with x as their last argument.
func calls(x int) map[string]func(n int, l []int) result {
	list := func(l []int, e api.Errno) result { return result{[][]int{l}, len(l) == 0, e} }
	pair := func(a, b int, ok bool, e api.Errno) result { return result{nil, a == 0 && b == 0 && !ok, e} }
	return map[string]func(n int, l []int) result{
		"Trace":     func(n int, l []int) result { return list(shat.Trace(n, l, x)) },
		"Shattered": func(n int, l []int) result { return list(shat.Shattered(n, l)) },
		"Dimension": func(n int, l []int) result {
			d, at, e := shat.Dimension(n, l)
			return result{nil, d == 0 && at == 0, e}
		},
		"Press":       func(n int, l []int) result { return list(shat.Press(n, l, x)) },
		"Down":        func(n int, l []int) result { return list(shat.Down(n, l)) },
		"Closure":     func(n int, l []int) result { return list(shat.Closure(n, l, true)) },
		"Closure too": func(n int, l []int) result { return list(shat.Closure(n, l, false)) },
		"Flower": func(n int, l []int) result {
			f, ok, e := shat.Flower(n, l, x)
			return result{[][]int{f}, len(f) == 0 && !ok, e}
		},
		"Crossing":  func(n int, l []int) result { return pair(shat.Crossing(n, l)) },
		"Extend":    func(n int, l []int) result { return list(shat.Extend(n, l)) },
		"Antichain": func(n int, l []int) result { return pair(shat.Antichain(n, l)) },
		"Lubell": func(n int, l []int) result {
			r, e := shat.Lubell(n, l)
			return result{nil, r.Cmp(num.Rat{}) == 0, e}
		},
	}
}

func TestNoFamilies(t *testing.T) {
	for want, list := range noFamilies() {
		for _, f := range list {
			for _, x := range []int{-1, 0, 1, 6, 1024} {
				for name, call := range calls(x) {
					if r := call(f.n, f.l); !r.zero || r.e != want {
						t.Errorf("%s for %d of %d sets, with %d: %v", name, f.n, len(f.l), x, r)
					}
				}
			}
			for _, flower := range [][]int{nil, {0}, {1}, {0, 1}, f.l} {
				if shat.IsFlower(f.n, f.l, flower) {
					t.Errorf("IsFlower for %d of %d sets", f.n, len(f.l))
				}
			}
		}
	}
}

// frame is a copy of l in the midst of other numbers.
func frame(l []int) ([]int, []int) {
	whole := slices.Concat([]int{-77}, l, []int{-77, -77, -77})
	return whole, whole[1 : 1+len(l)]
}

// Arguments stay as they are, and results are memory of their own.
func TestMemory(t *testing.T) {
	for _, f := range families(812, 7, 60) {
		whole, l := frame(f.l)
		before := slices.Clone(whole)
		for _, x := range []int{0, 1, 2, 3} {
			for name, call := range calls(x) {
				first := call(f.n, l)
				if !slices.Equal(whole, before) {
					t.Fatalf("%s of %v: the argument is %v", name, f, whole)
				}
				for i, part := range first.lists {
					want := slices.Clone(part)
					full := part[:cap(part)]
					for k := range full {
						full[k] = -99
					}
					again := call(f.n, l).lists[i]
					if !slices.Equal(whole, before) || !slices.Equal(again, want) {
						t.Fatalf("%s of %v: %v, then %v, the argument is %v", name, f, want, again, whole)
					}
				}
			}
		}
	}
}

func TestMemoryOfFlowersAndPairs(t *testing.T) {
	wholeFamily, l := frame([]int{1, 2, 3, 4})
	wholeFlower, flower := frame([]int{1, 2, 4})
	if !shat.IsFlower(3, l, flower) {
		t.Errorf("IsFlower")
	}
	if !slices.Equal(wholeFamily, []int{-77, 1, 2, 3, 4, -77, -77, -77}) || !slices.Equal(wholeFlower, []int{-77, 1, 2, 4, -77, -77, -77}) {
		t.Errorf("IsFlower: the arguments are %v, %v", wholeFamily, wholeFlower)
	}
	whole := [][2]int{{-1, 5}, {1, 2}, {2, 1}, {-1, 5}, {-1, 5}}
	before := slices.Clone(whole)
	if _, _, ok, e := shat.Cross(whole[1:3]); !ok || e != api.OK {
		t.Errorf("Cross: %t, %d", ok, e)
	}
	if r, e := shat.Weight(whole[1:3]); r.Cmp(num.Of(1)) != 0 || e != api.OK {
		t.Errorf("Weight: %s, %d", r, e)
	}
	if !slices.Equal(whole, before) {
		t.Errorf("the pairs are %v", whole)
	}
}
