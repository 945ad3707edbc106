package quad_test

import (
	"fmt"
	"math"
	"math/big"
	"slices"
	"testing"

	"stadda/api"
	"stadda/num"
	"stadda/quad"
)

// P4.4: Points, Characters, Symbol.

// pointsOf are all points with the value n, rising: none is outside a box, as -d x x <= 4 c n and -d y y <= 4 a n.
func pointsOf(f quad.Form, n int64) [][2]int64 {
	width, height := isqrt(4*f[2]*n/-disc(f))+1, isqrt(4*f[0]*n/-disc(f))+1
	var list [][2]int64
	for x := -width; x <= width; x++ {
		for y := -height; y <= height; y++ {
			if f[0]*x*x+f[1]*x*y+f[2]*y*y == n {
				list = append(list, [2]int64{x, y})
			}
		}
	}
	return list
}

// wantPoints checks what Points returns for f and n.
func wantPoints(t *testing.T, f quad.Form, n int64, want [][2]int64) {
	t.Helper()
	if l, e := quad.Points(f, n); !slices.Equal(l, want) || e != api.OK {
		t.Errorf("Points of %v at %d: %v, %d instead of %v", f, n, l, e, want)
	}
}

func TestPointsOfSmallForms(t *testing.T) {
	for a := int64(1); a <= 4; a++ {
		for b := int64(-5); b <= 5; b++ {
			for c := int64(1); c <= 4; c++ {
				f := quad.Form{a, b, c}
				if disc(f) >= 0 {
					continue
				}
				for n := int64(1); n <= 40; n++ {
					wantPoints(t, f, n, pointsOf(f, n))
				}
			}
		}
	}
}

func TestPoints(t *testing.T) {
	s := source{441}
	some := 0
	for range 1500 {
		f := s.form([]int64{6, 60, 1000}[s.Below(3)])
		f = s.like(f, 20_000)
		n := s.number(1, 300)
		if s.Below(2) == 0 { // a value of f
			n = value(f, s.number(-3, 3), s.number(-3, 3))
		}
		if n < 1 || n > 1_000_000 || 16*f[0]*f[2]/-disc(f)*n/-disc(f)*n > 1_000_000 {
			continue
		}
		want := pointsOf(f, n)
		wantPoints(t, f, n, want)
		if len(want) > 0 {
			some++
		}
	}
	if some < 300 {
		t.Errorf("%d forms with points", some)
	}
}

// The greatest numbers: a million as the value of forms with few and many points.
func TestGreatestPoints(t *testing.T) {
	for _, f := range []quad.Form{{1, 1, 1}, {1, 0, 1}, {1, 1, 2}, {1, 0, 999_999}, {1, 0, 1_000_000}, {1_000_000, 0, 1}, {1, 1, 1_000_000}, {500_000, 0, 500_000}, {1_000_000, 1_000_000, 1_000_000}, {1_000_000, -1_000_000, 1_000_000}, {999, 998, 1000}, {2, 2, 499_999}} {
		for _, n := range []int64{1, 999_999, 1_000_000} {
			wantPoints(t, f, n, pointsOf(f, n))
		}
	}
	if l := pointsOf(quad.Form{1, 1, 1}, 637); len(l) != 36 {
		t.Errorf("%d points", len(l))
	}
}

// Forms like x x + x y + y y with great numbers: as many points as that one has, and each of them far away.
func TestFarPoints(t *testing.T) {
	for _, f := range []quad.Form{{126139, -620795, 763813}, {987133, 676741, 115987}, {872347, -400391, 45943}, {1, -1999, 999_001}, {999_001, 1999, 1}} {
		for _, n := range []int64{1, 3, 49 * 13, 999_999, 1_000_000, 7 * 13 * 19 * 37 * 9, 2} {
			l, e := quad.Points(f, n)
			if e != api.OK || !rising(l) || len(l) != len(pointsOf(quad.Form{1, 1, 1}, n)) {
				t.Errorf("Points of %v at %d: %v, %d", f, n, l, e)
			}
			for _, p := range l {
				if value(f, p[0], p[1]) != n {
					t.Errorf("Points of %v at %d: %v", f, n, p)
				}
			}
		}
	}
}

func TestNoValues(t *testing.T) {
	for _, n := range append([]int64{0, -1, -5}, extremes...) {
		l, e := quad.Points(quad.Form{1, 0, 1}, n)
		failList(t, fmt.Sprint("Points at ", n), l, e, api.ErrArg)
		s, e := quad.Symbol(-4, n)
		fail(t, fmt.Sprint("Symbol of -4 at ", n), s, e, api.ErrArg)
		s, e = quad.Symbol(-5, n)
		fail(t, fmt.Sprint("Symbol of -5 at ", n), s, e, api.ErrDisc)
	}
}

// evenSigns are the characters of n for -4 k, by the chapter.
func evenSigns(n, k int64) []int {
	u, v := 1, 1
	switch n % 8 {
	case 3:
		u, v = -1, -1
	case 5:
		v = -1
	case 7:
		u = -1
	}
	return map[int64][]int{1: {u}, 5: {u}, 4: {u}, 2: {u * v}, 6: {v}, 0: {u, v}}[k%8]
}

// charactersOf are the characters of a form with the value n.
func charactersOf(n, d int64) []int {
	var list []int
	for p := int64(3); p <= -d; p += 2 {
		if d%p == 0 && big.NewInt(p).ProbablyPrime(0) {
			list = append(list, big.Jacobi(big.NewInt(n), big.NewInt(p)))
		}
	}
	if d%4 == 0 {
		list = append(list, evenSigns(n, -d/4)...)
	}
	return list
}

// wantCharacters checks what Characters returns for f, by all values of f near 0, 0.
func wantCharacters(t *testing.T, f quad.Form) {
	t.Helper()
	l := characters(t, f)
	found := 0
	for i := range int64(13 * 13) {
		n, d := value(f, i%13-6, i/13-6), disc(f)
		if n == 0 || divisor(n, 2*d) > 1 {
			continue
		}
		found++
		if want := charactersOf(n, d); found < 20 && !slices.Equal(l, want) {
			t.Errorf("Characters of %v: %v instead of %v, by the value %d", f, l, want, n)
		}
	}
	if found == 0 {
		t.Errorf("no values of %v by which its characters are known", f)
	}
}

func TestCharacters(t *testing.T) {
	for i, d := range discs() {
		if i > 60 && i%97 != 0 && d%4096 != 0 && d != -15_015 && d != -19_635 && d != -16_380 {
			continue
		}
		for j, f := range classes(t, d) {
			if j < 12 {
				wantCharacters(t, f)
			}
		}
	}
	s := source{442}
	for range 200 {
		f := s.primitiveForm(-20_000)
		wantCharacters(t, f)
		if g := s.like(f, 1_000_000); !slices.Equal(characters(t, g), characters(t, f)) {
			t.Errorf("Characters of %v: %v; of %v: %v", f, characters(t, f), g, characters(t, g))
		}
	}
	for _, x := range []struct {
		f    quad.Form
		want []int
	}{
		{quad.Form{1, 0, 1}, []int{1}}, {quad.Form{1, 1, 1}, []int{1}}, {quad.Form{1, 0, 2}, []int{1}}, {quad.Form{1, 0, 3}, []int{1}}, {quad.Form{3, 0, 1}, []int{1}},
		{quad.Form{3, 2, 3}, []int{-1, -1}}, {quad.Form{2, 0, 3}, []int{-1, -1}}, {quad.Form{3, 0, 4}, []int{1, -1}}, {quad.Form{3, 0, 5}, []int{-1, -1}}, {quad.Form{5, 0, 7}, []int{-1, -1}}, {quad.Form{3, 0, 8}, []int{-1, -1, -1}},
	} {
		if l := characters(t, x.f); !slices.Equal(l, x.want) {
			t.Errorf("Characters of %v: %v instead of %v", x.f, l, x.want)
		}
	}
}

func TestSymbols(t *testing.T) {
	s := source{443}
	want := func(d, n int64, want int) {
		t.Helper()
		if got, e := quad.Symbol(d, n); got != want || e != api.OK {
			t.Errorf("Symbol of %d at %d: %d, %d instead of %d", d, n, got, e, want)
		}
	}
	for i, d := range discs() {
		if i > 40 && i%101 != 0 && d > -19_990 {
			continue
		}
		for n := int64(1); n <= 130; n++ {
			want(d, n, symbolOf(d, n))
		}
		for range 20 {
			n := s.number(1, 1_000_000)
			want(d, n, symbolOf(d, n))
		}
		want(d, 1, 1)
		want(d, 999_983, symbolAt(d, 999_983))
		want(d, 1<<19, symbolAt(d, 2)*symbolAt(d, 2)*symbolAt(d, 2)) // an odd power
		want(d, 1_000_000, symbolOf(d, 10)*symbolOf(d, 10))
	}
	want(-7, 2, 1)
	want(-15, 2, 1)
	want(-3, 2, -1)
	want(-11, 2, -1)
	want(-4, 2, 0)
	want(-8, 2, 0)
	want(-3, 3, 0)
	want(-3, 4, 1)
	want(-4, 3, -1)
	for _, d := range []int64{0, 1, -1, -2, -5, -6, 5, 8, -20_001, -20_003, -20_004, math.MinInt64, math.MaxInt64} {
		got, e := quad.Symbol(d, 1)
		fail(t, fmt.Sprint("Symbol of ", d), got, e, api.ErrDisc)
	}
}

// The symbol of d at an odd number is that of chapter 1.
func TestSymbolsOfOddNumbers(t *testing.T) {
	for _, d := range []int64{-3, -4, -20, -23, -15_015, -19_999, -20_000} {
		for n := int64(1); n < 3000; n += 2 {
			want, _ := num.Symbol(d, n)
			if got, e := quad.Symbol(d, n); got != want || e != api.OK {
				t.Errorf("Symbol of %d at %d: %d, %d instead of %d", d, n, got, e, want)
			}
		}
	}
}

// R4: what a call returned is the caller's.
func TestListsAreNew(t *testing.T) {
	l, _ := quad.Points(quad.Form{1, 0, 1}, 5)
	for i := range l {
		l[i] = [2]int64{}
	}
	wantPoints(t, quad.Form{1, 0, 1}, 5, pointsOf(quad.Form{1, 0, 1}, 5))
	for _, f := range []quad.Form{{2, 2, 3}, {3, 2, 3}, {3, 0, 8}} {
		first := characters(t, f)
		second := slices.Clone(first)
		clear(first)
		if l := characters(t, f); !slices.Equal(l, second) {
			t.Errorf("Characters of %v: %v, then %v", f, second, l)
		}
	}
}
