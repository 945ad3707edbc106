package bitset_test

import (
	"math"
	"slices"
	"testing"

	"stadda/bitset"
	"stadda/chance"
)

// elements are those of a set.
func elements(set int) []int {
	var list []int
	for i := 0; set > 0; i++ {
		if set%2 == 1 {
			list = append(list, i)
		}
		set /= 2
	}
	return list
}

func TestCount(t *testing.T) {
	for set := range 1 << 12 {
		if n := bitset.Count(set); n != len(elements(set)) {
			t.Errorf("Count of %d: %d", set, n)
		}
	}
	if n := bitset.Count(math.MaxInt); n != len(elements(math.MaxInt)) {
		t.Errorf("Count of the greatest set: %d", n)
	}
}

func TestElements(t *testing.T) {
	for set := range 1 << 12 {
		for range 2 {
			if l := slices.Collect(bitset.Elements(set)); !slices.Equal(l, elements(set)) {
				t.Errorf("Elements of %d: %v", set, l)
			}
		}
		n := 0
		for range bitset.Elements(set) {
			if n++; n == 3 {
				break
			}
		}
		if n != min(3, len(elements(set))) {
			t.Errorf("Elements of %d: %d, then left", set, n)
		}
	}
	for _, set := range []int{1 << 62, math.MaxInt, math.MaxInt - 1, 1<<62 | 1} {
		l := slices.Collect(bitset.Elements(set))
		all := bitset.Elements(set)
		if !slices.Equal(l, elements(set)) || !slices.Equal(slices.Collect(all), slices.Collect(all)) {
			t.Errorf("Elements of %d: %v", set, l)
		}
	}
}

func TestWithin(t *testing.T) {
	for set := range 1 << 8 {
		var want []int
		for part := range set + 1 {
			if part|set == set {
				want = append(want, part)
			}
		}
		if l := slices.Collect(bitset.Within(set)); !slices.Equal(l, want) {
			t.Errorf("Within %d: %v", set, l)
		}
	}
}

// The sets within a set are as many as the numbers with so many digits: the i-th digit tells of the i-th element.
func TestWithinLargeSets(t *testing.T) {
	s := chance.Source(11)
	for range 300 {
		set := 0
		for range 10 {
			set |= 1 << s.Below(63)
		}
		all := elements(set)
		number := 0
		for part := range bitset.Within(set) {
			want := 0
			for i, e := range all {
				want |= number >> i & 1 << e
			}
			if part != want {
				t.Fatalf("Within %d: %d instead of %d", set, part, want)
			}
			number++
		}
		if number != 1<<len(all) {
			t.Errorf("Within %d: %d sets", set, number)
		}
	}
}

func TestWithinIsLeft(t *testing.T) {
	for set := range 64 {
		n := 0
		for range bitset.Within(set) {
			if n++; n == 3 {
				break
			}
		}
		if n != min(3, 1<<bitset.Count(set)) {
			t.Errorf("Within %d: %d sets", set, n)
		}
	}
}
