package heap_test

import (
	"fmt"
	"slices"
	"testing"

	"stadda/api"
	"stadda/chance"
	"stadda/heap"
)

// P6.3: Moves.

// moves is what Moves returns.
func moves(t *testing.T, code string, heaps []int) [][]int {
	t.Helper()
	l, e := heap.Moves(code, heaps)
	if e != api.OK {
		t.Fatalf("Moves of %s from %v: %d", code, heaps, e)
	}
	return l
}

// equal tells whether the lists are the same, nil being empty.
func equal(l, m [][]int) bool {
	return slices.EqualFunc(l, m, slices.Equal)
}

func TestKnownMoves(t *testing.T) {
	for _, x := range []struct {
		code  string
		heaps []int
		want  [][]int
	}{
		{"0.3", []int{1, 2}, [][]int{{1, 1}, {2}}}, {"0.3", []int{2, 1}, [][]int{{1, 1}, {2}}}, {"0.3", []int{0, 2, 0, 1, 0}, [][]int{{1, 1}, {2}}},
		{"0.77", []int{5}, [][]int{{2, 2}}}, {"0.77", []int{3, 3}, nil}, {"0.77", []int{6}, [][]int{{1, 4}, {2, 2}}}, {"0.77", []int{1, 1, 2}, [][]int{{1, 1}}},
		{"0.7", []int{1}, [][]int{nil}}, {"0.1", []int{1, 0}, [][]int{nil}}, {"0.7", []int{0}, nil}, {"0.7", nil, nil}, {"0.7", []int{}, nil}, {"0.7", make([]int, 10), nil},
		{"0.0", []int{5, 7}, nil}, {"0.1", []int{2, 3}, nil}, {"0.1", []int{1, 3}, [][]int{{3}}}, {"0.1", []int{1, 1, 1}, [][]int{{1, 1}}}, {"0.4", []int{3}, [][]int{{1, 1}}}, {"0.4", []int{4}, [][]int{{1, 2}}},
		{"0.333", []int{5, 5, 4}, nil}, {"0.333", []int{6}, [][]int{{4}}}, {"0.333", []int{3}, [][]int{nil}}, {"0.333", []int{3, 4}, [][]int{{3, 3}, {4}}},
	} {
		if l := moves(t, x.code, x.heaps); !equal(l, x.want) {
			t.Errorf("Moves of %s from %v: %v instead of %v", x.code, x.heaps, l, x.want)
		}
	}
}

// some are from no heap to most heaps, each of them up to greatest.
func some(s *chance.Source, most, greatest int) []int {
	heaps := make([]int, s.From(0, most))
	for i := range heaps {
		heaps[i] = s.From(0, greatest)
	}
	return heaps
}

// wantMoves compares with all positions to which one move leads and whose value is 0, and returns how many there are.
func wantMoves(t *testing.T, code string, values, heaps []int) int {
	t.Helper()
	var want [][]int
	for _, position := range after(code, heaps) {
		if valueAt(values, position) == 0 {
			want = append(want, position)
		}
	}
	if l := moves(t, code, heaps); !equal(l, want) {
		t.Errorf("Moves of %s from %v: %v instead of %v", code, heaps, l, want)
	}
	return len(want)
}

func TestMoves(t *testing.T) {
	s := chance.Source(631)
	many := 0
	for _, code := range codes(632, 150) {
		values := valuesOf(code, 40)
		for range 12 {
			if wantMoves(t, code, values, some(&s, 5, []int{3, 12, 40}[s.Below(3)])) > 5 {
				many++
			}
		}
	}
	if many < 50 {
		t.Errorf("only %d positions with many moves", many)
	}
}

// A move from each of the heaps, alike ones among them, leads to the same positions.
func TestMovesFromAlikeHeaps(t *testing.T) {
	s := chance.Source(633)
	for _, code := range []string{"0.77", "0.777", "0.37", "0.6", "0.333"} {
		values := valuesOf(code, 30)
		for range 40 {
			heaps := some(&s, 3, 30)
			wantMoves(t, code, values, slices.Concat(heaps, heaps, []int{s.From(1, 30)}))
			wantMoves(t, code, values, slices.Repeat([]int{s.From(1, 30)}, 9))
		}
	}
}

func TestMovesFromTheGreatestHeaps(t *testing.T) {
	for _, code := range []string{"0.77777777", "0.6", "0.3"} {
		values := valuesOf(code, 200)
		for _, heaps := range [][]int{{200}, {199, 200}, {200, 0, 197}, {200, 199, 198, 197, 196, 195, 194, 193, 192, 191}, slices.Repeat([]int{200}, 9), slices.Repeat([]int{200}, 10)} {
			wantMoves(t, code, values, heaps)
		}
	}
}

func TestNoMoves(t *testing.T) {
	for _, n := range []int{11, 12, 1000} {
		for _, first := range []int{0, 1, -1, 201} {
			heaps := make([]int, n)
			heaps[0] = first
			if l, e := heap.Moves("0.77", heaps); len(l) > 0 || e != api.ErrLong {
				t.Errorf("Moves from %d heaps: %v, %d", n, l, e)
			}
		}
	}
	for _, n := range append([]int{-1, -2, 201, 202, 256, 2000}, extremes...) {
		for _, heaps := range [][]int{{n}, {n, 1}, {1, n}, {1, 2, n, 3}, {9: n}} {
			if l, e := heap.Moves("0.77", heaps); len(l) > 0 || e != api.ErrArg {
				t.Errorf("Moves from %v: %v, %d", heaps, l, e)
			}
		}
	}
}

// R4: arguments are not changed, results share no memory.
func TestMovesAreNew(t *testing.T) {
	all := []int{9, 0, 20, 25, 8, 6, 5, 4}
	heaps := all[1:5]
	for range 2 {
		want := fmt.Sprint(after("0.77", heaps))
		l := moves(t, "0.77", heaps)
		text := fmt.Sprint(l)
		for i := range l {
			_ = append(l[i], 99, 99, 99)
		}
		if fmt.Sprint(l) != text || len(l) < 2 {
			t.Errorf("Moves: %s, then %v", text, l)
		}
		for i := range l {
			clear(l[i])
		}
		if !slices.Equal(all, []int{9, 0, 20, 25, 8, 6, 5, 4}) || fmt.Sprint(after("0.77", heaps)) != want {
			t.Errorf("Moves changed the heaps to %v", all)
		}
		if again := moves(t, "0.77", heaps); fmt.Sprint(again) != text {
			t.Errorf("Moves: %s, then %v", text, again)
		}
	}
}
