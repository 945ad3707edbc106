package heap_test

import (
	"fmt"
	"slices"
	"testing"

	"stadda/api"
	"stadda/chance"
	"stadda/heap"
)

// P6.6, P6.7, P6.8.

// Sprague, Grundy: who moves from heaps whose values have the sum 0 loses, from others there is a move to such heaps.
func TestValuesTellWhoWins(t *testing.T) {
	s := chance.Source(661)
	p := play{}
	for _, code := range codes(662, 60) {
		known := values(t, code, 12)
		for range 10 {
			heaps := some(&s, 3, []int{4, 7, 12}[s.Below(3)])
			wins := p.wins(code, heaps)
			if wins != (valueAt(known, heaps) != 0) {
				t.Errorf("%s from %v: won is %t, the values are %v", code, heaps, wins, known)
			}
			l := moves(t, code, heaps)
			if wins != (len(l) > 0) {
				t.Errorf("Moves of %s from %v: %v, won is %t", code, heaps, l, wins)
			}
			for _, next := range after(code, heaps) {
				is := slices.ContainsFunc(l, func(m []int) bool { return slices.Equal(m, next) })
				if is == p.wins(code, next) {
					t.Errorf("Moves of %s from %v: %v, %v is there: %t", code, heaps, l, next, is)
				}
			}
		}
	}
}

// From where a move of Moves leads, no such move leads on.
func TestMovesOfGreatHeaps(t *testing.T) {
	s := chance.Source(663)
	for _, code := range codes(664, 200) {
		known := values(t, code, 200)
		heaps := some(&s, 10, 200)
		l := moves(t, code, heaps)
		if (len(l) > 0) != (valueAt(known, heaps) != 0) {
			t.Errorf("Moves of %s from %v: %v", code, heaps, l)
		}
		for _, next := range l {
			if len(next) <= 10 && len(moves(t, code, next)) > 0 {
				t.Errorf("Moves of %s from %v: %v", code, heaps, next)
			}
		}
	}
}

// Guy, Smith: periods go on.
func TestPeriodsGoOn(t *testing.T) {
	found := 0
	for i, code := range codes(665, 120) {
		known := values(t, code, 2000)
		for _, limit := range []int{20, 50, 100, 300, 700, 2000} {
			pre, period, ok, e := heap.Period(code, limit)
			if e != api.OK {
				t.Fatalf("Period of %s within %d: %d", code, limit, e)
			}
			if !ok {
				continue
			}
			found++
			for n := pre; n+period <= 2000; n++ {
				if known[n] != known[n+period] {
					t.Errorf("%s: period %d, %d, not so at %d", code, pre, period, n)
				}
			}
			more, times := pre+i%7, i%3+1
			if needed := 2*more + 3*times*period + len(code) - 2; heap.IsPeriod(code, 2000, more, times*period) != (needed <= 2000) {
				t.Errorf("IsPeriod of %s: %d, %d, but %d, %d", code, pre, period, more, times*period)
			}
		}
	}
	if found < 300 {
		t.Errorf("only %d periods", found)
	}
}

// Conway: the numbers are a field.
func TestProductsAreAField(t *testing.T) {
	s := chance.Source(666)
	for range 30_000 {
		a, b, c := s.Below(65536), s.Below(65536), s.Below(65536)
		if times(t, a, b) != times(t, b, a) {
			t.Errorf("%d, %d: %d and %d", a, b, times(t, a, b), times(t, b, a))
		}
		if l, r := times(t, times(t, a, b), c), times(t, a, times(t, b, c)); l != r {
			t.Errorf("%d, %d, %d: %d and %d", a, b, c, l, r)
		}
		if l, r := times(t, a, b^c), times(t, a, b)^times(t, a, c); l != r {
			t.Errorf("%d times %d and %d: %d and %d", a, b, c, l, r)
		}
		if a != 0 && b != 0 && times(t, a, b) == 0 {
			t.Errorf("%d times %d is 0", a, b)
		}
	}
	for a := range 65536 {
		if times(t, a, 0) != 0 || times(t, a, 1) != a || power(t, a, 65536) != a {
			t.Errorf("%d times 0 and 1, and its power: %d, %d, %d", a, times(t, a, 0), times(t, a, 1), power(t, a, 65536))
		}
	}
}

func TestProductsOfSquares(t *testing.T) {
	for _, square := range []int{2, 4, 16, 256} {
		for a := range square {
			if p := times(t, square, a); p != square*a {
				t.Errorf("%d times %d: %d", square, a, p)
			}
		}
		if p := times(t, square, square); p != square/2*3 {
			t.Errorf("%d times itself: %d", square, p)
		}
	}
}

// The examples of the chapter.
func TestExamples(t *testing.T) {
	wantPeriod(t, "0.3", 2000, 0, 2, true)
	wantPeriod(t, "0.333", 2000, 0, 4, true)
	if l := values(t, "0.77", 11); fmt.Sprint(l) != "[0 1 2 3 1 4 3 2 1 4 2 6]" {
		t.Errorf("Values: %v", l)
	}
	if times(t, 2, 2) != 3 || times(t, 2, 3) != 1 || times(t, 4, 4) != 6 {
		t.Errorf("Times: %d, %d, %d", times(t, 2, 2), times(t, 2, 3), times(t, 4, 4))
	}
	if r, e := heap.Root(3); r != 2 || e != api.OK {
		t.Errorf("Root: %d, %d", r, e)
	}
	if b, e := heap.Inverse(2); b != 3 || e != api.OK {
		t.Errorf("Inverse: %d, %d", b, e)
	}
	wantOutcomes(t, [][]int{{1}, {0, 2}, {}}, []int{heap.Lost, heap.Won, heap.Lost}, []int{2, 1, 0})
	if l := moves(t, "0.3", []int{1, 2}); fmt.Sprint(l) != "[[1 1] [2]]" {
		t.Errorf("Moves: %v", l)
	}
}
