package shat_test

import (
	"slices"
	"testing"

	"stadda/api"
	"stadda/chance"
	"stadda/shat"
)

// P8.3: Flower, IsFlower.

// isFlowerOf tells whether any two of the sets have the same common part.
func isFlowerOf(sets []int) bool {
	for i, a := range sets {
		for _, b := range sets[:i] {
			if a&b != sets[0]&sets[1] {
				return false
			}
		}
	}
	return true
}

// rows yields the lists of k sets of l, in their order, until one is taken.
func rows(l []int, k int, take func([]int) bool) bool {
	if k == 0 {
		return take(nil)
	}
	for i, s := range l {
		if rows(l[i+1:], k-1, func(rest []int) bool { return take(append([]int{s}, rest...)) }) {
			return true
		}
	}
	return false
}

// flowerOf is the first flower of k sets by the definition.
func flowerOf(l []int, k int) []int {
	var flower []int
	rows(l, k, func(sets []int) bool {
		if isFlowerOf(sets) {
			flower = sets
			return true
		}
		return false
	})
	return flower
}

func checkFlower(t *testing.T, f family, k int, want []int) {
	t.Helper()
	l, ok, e := shat.Flower(f.n, f.l, k)
	if !slices.Equal(l, want) || ok != (len(want) > 0) || e != api.OK {
		t.Errorf("Flower of %v, %d sets: %v, %t, %d instead of %v", f, k, l, ok, e, want)
	}
	if ok && !shat.IsFlower(f.n, f.l, l) {
		t.Errorf("IsFlower of %v, %v", f, l)
	}
}

func TestFlower(t *testing.T) {
	number := map[bool][6]int{}
	for _, f := range slices.Concat(small(3), small(4)[:3000], known(4), some(841, 3, 6, 14, 300), some(842, 7, 10, 16, 200)) {
		if len(f.l) > 20 {
			continue
		}
		for k := 1; k <= 5; k++ {
			want := flowerOf(f.l, k)
			checkFlower(t, f, k, want)
			n := number[want != nil]
			n[k]++
			number[want != nil] = n
		}
	}
	for k := 3; k <= 5; k++ {
		if number[false][k] < 50 || number[true][k] < 50 {
			t.Errorf("families with and without a flower of %d sets: %v", k, number)
		}
	}
}

func TestFlowersOfManySets(t *testing.T) {
	for _, f := range some(843, 7, 10, 100, 60) {
		f.l = f.l[:min(len(f.l), 60)]
		for k := 1; k <= 3; k++ {
			checkFlower(t, f, k, flowerOf(f.l, k))
		}
	}
}

// In a family with no flower of k sets the search goes to the end.
func TestFlowersAtTheLimit(t *testing.T) {
	upTo := func(n, last int) family { return where(n, func(s int) bool { return s <= last }) }
	checkFlower(t, upTo(10, 59), 5, []int{0, 1, 2, 4, 8})
	checkFlower(t, upTo(6, 59), 1, []int{0})
	pairs := where(10, func(s int) bool { // one of each two elements
		return slices.Contains([]int{1, 2}, s&3) && slices.Contains([]int{4, 8}, s&12) && slices.Contains([]int{16, 32}, s&48) && slices.Contains([]int{64, 128}, s&192) && slices.Contains([]int{256, 512}, s&768)
	})
	for k := 3; k <= 5; k++ {
		checkFlower(t, pairs, k, nil)
	}
	checkFlower(t, pairs, 2, pairs.l[:2])
	for _, f := range []family{where(10, func(s int) bool { return ones(s) == 9 || ones(s) == 10 }), where(6, func(s int) bool { return ones(s) >= 2 })} {
		l := f.l[max(0, len(f.l)-60):]
		for k := 1; k <= 5; k++ {
			l, ok, e := shat.Flower(f.n, l, k)
			if e != api.OK || ok && !isFlowerOf(l) {
				t.Errorf("Flower: %v, %t, %d", l, ok, e)
			}
		}
	}
}

func TestKnownFlowers(t *testing.T) {
	for _, x := range []struct {
		n    int
		l    []int
		k    int
		want []int
	}{
		{0, nil, 1, nil}, {0, nil, 2, nil}, {0, []int{0}, 1, []int{0}}, {0, []int{0}, 2, nil}, {3, nil, 1, nil}, {3, []int{5}, 1, []int{5}}, {3, []int{5}, 2, nil}, {3, []int{5, 6}, 1, []int{5}}, {3, []int{5, 6}, 2, []int{5, 6}}, {3, []int{5, 6}, 3, nil}, {3, []int{5, 6, 7}, 2, []int{5, 6}}, {3, []int{5, 6, 7}, 3, nil},
		{3, []int{1, 2, 4}, 3, []int{1, 2, 4}}, {3, []int{0, 1, 2, 4}, 4, []int{0, 1, 2, 4}}, {3, []int{0, 1, 2, 4}, 3, []int{0, 1, 2}}, {2, []int{0, 1, 2, 3}, 3, []int{0, 1, 2}}, {2, []int{0, 1, 2, 3}, 4, nil}, {2, []int{1, 2, 3}, 3, nil},
		{5, []int{3, 5, 6, 9, 17}, 4, []int{3, 5, 9, 17}}, {4, []int{3, 5, 10, 12}, 3, nil}, {5, []int{1, 3, 5, 9, 17}, 5, []int{1, 3, 5, 9, 17}}, {5, []int{3, 5, 9, 17}, 5, nil},
	} {
		checkFlower(t, family{x.n, x.l}, x.k, x.want)
	}
}

func TestNoFlower(t *testing.T) {
	numbers := append([]int{-1, -2, -5, 0, 6, 7, 60, 61}, extremes...)
	for _, f := range families(844, 10, 10) {
		for _, k := range numbers {
			if l, ok, e := shat.Flower(f.n, f.l, k); len(l) > 0 || ok || e != api.ErrArg {
				t.Errorf("Flower of %v, %d sets: %v, %t, %d", f, k, l, ok, e)
			}
		}
	}
	for n := 6; n <= 10; n++ {
		for sets := 61; sets <= 1<<n; sets++ {
			f := where(n, func(s int) bool { return s < sets })
			for k := 1; k <= 5; k++ {
				if l, ok, e := shat.Flower(f.n, f.l, k); len(l) > 0 || ok || e != api.ErrLong {
					t.Errorf("Flower of %d sets: %v, %t, %d", sets, l, ok, e)
				}
			}
		}
	}
}

func TestIsFlower(t *testing.T) {
	for _, f := range slices.Concat(small(3), some(845, 4, 10, 12, 30)) {
		if len(f.l) > 10 {
			continue
		}
		for number := range 1 << len(f.l) {
			var flower []int
			for _, i := range elements(number) {
				flower = append(flower, f.l[i])
			}
			if shat.IsFlower(f.n, f.l, flower) != (len(flower) > 0 && isFlowerOf(flower)) {
				t.Errorf("IsFlower of %v, %v", f, flower)
			}
		}
	}
}

// All lists of up to three numbers, rising or not, in the family or not.
func TestIsFlowerOfAnyList(t *testing.T) {
	for _, f := range some(846, 2, 3, 8, 40) {
		var list [][]int
		for a := -1; a < 9; a++ {
			list = append(list, []int{a})
			for b := -1; b < 9; b++ {
				list = append(list, []int{a, b})
				for c := -1; c < 9; c++ {
					list = append(list, []int{a, b, c})
				}
			}
		}
		for _, flower := range list {
			want := slices.Equal(flower, sorted(flower)) && isFlowerOf(flower) && !slices.ContainsFunc(flower, func(s int) bool { return !slices.Contains(f.l, s) })
			if shat.IsFlower(f.n, f.l, flower) != want {
				t.Errorf("IsFlower of %v, %v is not %t", f, flower, want)
			}
		}
	}
}

// Flowers may have more sets than Flower searches for, and be of families with more sets.
func TestIsFlowerOfManySets(t *testing.T) {
	all := where(10, func(int) bool { return true })
	single := []int{0, 1, 2, 4, 8, 16, 32, 64, 128, 256, 512}
	s := chance.Source(847)
	for range 200 {
		core := s.Below(1 << 10)
		var flower []int
		for _, x := range single {
			if x == 0 || core&x == 0 {
				flower = append(flower, core|x)
			}
		}
		flower = sorted(flower)
		if !shat.IsFlower(10, all.l, flower) {
			t.Errorf("IsFlower of %v", flower)
		}
		if i := s.Below(len(flower)); len(flower) > 3 {
			without := where(10, func(s int) bool { return s != flower[i] })
			if shat.IsFlower(10, without.l, flower) {
				t.Errorf("IsFlower of %v, without %d", flower, flower[i])
			}
		}
		if len(flower) > 3 {
			extra := sorted(append(slices.Clone(flower), 1<<10-1))
			if shat.IsFlower(10, all.l, extra) {
				t.Errorf("IsFlower of %v", extra)
			}
		}
	}
	if shat.IsFlower(10, all.l, all.l) || shat.IsFlower(10, all.l, make([]int, 1<<22)) {
		t.Errorf("IsFlower of many sets")
	}
	for _, x := range extremes {
		for _, flower := range [][]int{{x}, {0, x}, {1, 2, x}} {
			if shat.IsFlower(10, all.l, flower) {
				t.Errorf("IsFlower of %v", flower)
			}
		}
	}
}
