package quad_test

import (
	"fmt"
	"testing"

	"stadda/api"
	"stadda/quad"
)

// P4.2: Reduce, Alike, Selves.

// wantReduced checks what Reduce returns for f by the definitions.
func wantReduced(t *testing.T, f quad.Form) {
	t.Helper()
	r, m, e := quad.Reduce(f)
	if e != api.OK || !isReduced(r) || !takes(f, r, m) {
		t.Errorf("Reduce of %v: %v, %v, %d", f, r, m, e)
	}
}

func TestReduceAllSmallForms(t *testing.T) {
	for a := int64(1); a <= 12; a++ {
		for b := int64(-24); b <= 24; b++ {
			for c := int64(1); c <= 12; c++ {
				if f := (quad.Form{a, b, c}); disc(f) < 0 {
					wantReduced(t, f)
				}
			}
		}
	}
}

func TestReduce(t *testing.T) {
	s := source{421}
	for range 5000 {
		f := s.form([]int64{50, 1000, 1_000_000}[s.Below(3)])
		wantReduced(t, f)
		r, _, _ := quad.Reduce(f)
		if g := s.like(r, 1_000_000); g != r {
			wantReduced(t, g)
		}
		if r != simplest(f) {
			t.Errorf("Reduce of %v: %v instead of %v", f, r, simplest(f))
		}
	}
}

// Forms whose changes have great numbers, and all ties.
func TestReduceAtLimits(t *testing.T) {
	for _, x := range []struct{ f, want quad.Form }{
		{quad.Form{1_000_000, 1_000_000, 250_001}, quad.Form{4, 4, 250_001}},
		{quad.Form{1_000_000, -1_000_000, 1_000_000}, quad.Form{1_000_000, 1_000_000, 1_000_000}},
		{quad.Form{1_000_000, -1_000_000, 500_000}, quad.Form{500_000, 0, 500_000}},
		{quad.Form{987_133, 676_741, 115_987}, quad.Form{1, 1, 1}},
		{quad.Form{126_139, -620_795, 763_813}, quad.Form{1, 1, 1}},
		{quad.Form{1, 1998, 998_002}, quad.Form{1, 0, 1}},
		{quad.Form{1, -1999, 999_001}, quad.Form{1, 1, 1}},
		{quad.Form{2, -2, 3}, quad.Form{2, 2, 3}}, {quad.Form{2, -2, 2}, quad.Form{2, 2, 2}}, {quad.Form{3, -1, 3}, quad.Form{3, 1, 3}}, {quad.Form{3, -1, 4}, quad.Form{3, -1, 4}},
		{quad.Form{3, 2, 3}, quad.Form{3, 2, 3}}, {quad.Form{3, -3, 3}, quad.Form{3, 3, 3}}, {quad.Form{3, 3, 4}, quad.Form{3, 3, 4}}, {quad.Form{1_000_000, 0, 1}, quad.Form{1, 0, 1_000_000}},
	} {
		wantReduced(t, x.f)
		if r, _, _ := quad.Reduce(x.f); r != x.want {
			t.Errorf("Reduce of %v: %v instead of %v", x.f, r, x.want)
		}
	}
}

// changesBetween are all changes that take f to g, found by the points at which f has the values of g at 1, 0 and 0, 1: none of them has a number greater than most.
func changesBetween(f, g quad.Form, most int64) []matrix {
	var first, last [][2]int64
	for x := -most; x <= most; x++ {
		for y := -most; y <= most; y++ {
			if value(f, x, y) == g[0] {
				first = append(first, [2]int64{x, y})
			}
			if value(f, x, y) == g[2] {
				last = append(last, [2]int64{x, y})
			}
		}
	}
	var list []matrix
	for _, p := range first {
		for _, q := range last {
			if m := (matrix{{p[0], q[0]}, {p[1], q[1]}}); takes(f, g, m) {
				list = append(list, m)
			}
		}
	}
	return list
}

// All forms with numbers up to 4, by the changes between them: a x x <= 4 c n / -d at each point with the value n.
func TestAlikeSmallForms(t *testing.T) {
	var forms []quad.Form
	for a := int64(1); a <= 4; a++ {
		for b := int64(-4); b <= 4; b++ {
			for c := int64(1); c <= 4; c++ {
				if f := (quad.Form{a, b, c}); disc(f) < 0 {
					forms = append(forms, f)
				}
			}
		}
	}
	count := map[bool]int{}
	for _, f := range forms {
		selves := changesBetween(f, f, 5)
		if n, e := quad.Selves(f); n != len(selves) || e != api.OK {
			t.Errorf("Selves of %v: %d, %d instead of %v", f, n, e, selves)
		}
		for _, g := range forms {
			m, ok, e := quad.Alike(f, g)
			if disc(f) != disc(g) {
				fail(t, fmt.Sprint("Alike of ", f, " and ", g), ok, e, api.OK)
				continue
			}
			want := changesBetween(f, g, 5)
			count[ok]++
			if e != api.OK || ok != (len(want) > 0) || ok && !takes(f, g, m) || !ok && m != (matrix{}) {
				t.Errorf("Alike of %v and %v: %v, %t, %d instead of one of %v", f, g, m, ok, e, want)
			}
		}
	}
	if count[true] < 300 || count[false] < 100 {
		t.Errorf("alike and not: %v", count)
	}
}

func TestAlike(t *testing.T) {
	s := source{422}
	for range 3000 {
		r := s.form([]int64{3, 50, 1000}[s.Below(3)])
		f, g := s.like(r, 1_000_000), s.like(r, 1_000_000)
		m, ok, e := quad.Alike(f, g)
		if !ok || e != api.OK || !takes(f, g, m) {
			t.Errorf("Alike of %v and %v: %v, %t, %d", f, g, m, ok, e)
		}
		n, e := quad.Selves(f)
		if k, h := quad.Selves(g); n != k || e != api.OK || h != api.OK {
			t.Errorf("Selves of %v: %d, %d; of %v: %d, %d", f, n, e, g, k, h)
		}
	}
}

// Forms of one discriminant, and forms of different ones with the same beginning.
func TestNotAlike(t *testing.T) {
	for _, d := range []int64{-23, -20, -96, -420, -4 * 441, -19_999, -20_000} {
		l := classes(t, d)
		for i, f := range l {
			for j, g := range l {
				m, ok, e := quad.Alike(f, g)
				if ok != (i == j) || e != api.OK || ok && !takes(f, g, m) || !ok && m != (matrix{}) {
					t.Errorf("Alike of %v and %v: %v, %t, %d", f, g, m, ok, e)
				}
			}
		}
	}
	for _, x := range [][2]quad.Form{{{1, 0, 1}, {1, 0, 2}}, {{1, 0, 2}, {1, 0, 1}}, {{1, 1, 1}, {2, 2, 2}}, {{1, 0, 4}, {2, 0, 2}}, {{2, 0, 2}, {1, 0, 4}}, {{2, 1, 3}, {2, -1, 3}}, {{1_000_000, 0, 1}, {1, 0, 999_999}}} {
		m, ok, e := quad.Alike(x[0], x[1])
		fail(t, fmt.Sprint("Alike of ", x), ok, e, api.OK)
		fail(t, fmt.Sprint("Alike of ", x), m, e, api.OK)
	}
}

// The numbers of a change between forms may be greater than those of a call of Change.
func TestAlikeAtLimits(t *testing.T) {
	like := []quad.Form{
		{126139, -620795, 763813}, {987133, 676741, 115987}, {7347, -154887, 816319}, {972903, -300417, 23191}, {7669, 172859, 974059}, {845299, 705269, 147109}, {30729, 326649, 868069}, {872347, -400391, 45943},
		{1, 1, 1}, {1, -1999, 999_001}, {999_001, 1999, 1},
	}
	for _, f := range like {
		for _, g := range like {
			m, ok, e := quad.Alike(f, g)
			if !ok || e != api.OK || !takes(f, g, m) {
				t.Errorf("Alike of %v and %v: %v, %t, %d", f, g, m, ok, e)
			}
		}
		if n, e := quad.Selves(f); n != 6 || e != api.OK {
			t.Errorf("Selves of %v: %d, %d", f, n, e)
		}
	}
}

func TestSelves(t *testing.T) {
	s := source{423}
	for _, x := range []struct {
		r    quad.Form
		want int
	}{
		{quad.Form{1, 1, 1}, 6}, {quad.Form{7, 7, 7}, 6}, {quad.Form{1, 0, 1}, 4}, {quad.Form{9, 0, 9}, 4}, {quad.Form{1, 0, 2}, 2}, {quad.Form{2, 1, 2}, 2}, {quad.Form{2, 2, 3}, 2}, {quad.Form{1, 1, 2}, 2}, {quad.Form{1, 0, 3}, 2},
		{quad.Form{1, 0, 4}, 2}, {quad.Form{1_000_000, 1_000_000, 1_000_000}, 6}, {quad.Form{1_000_000, 0, 1_000_000}, 4}, {quad.Form{1_000_000, 1, 1_000_000}, 2}, {quad.Form{500_000, 0, 1_000_000}, 2}, {quad.Form{999_999, 999_999, 1_000_000}, 2},
	} {
		for i := range 20 {
			f := x.r
			if i > 0 && f[2] < 1000 {
				f = s.like(f, 1_000_000)
			}
			if n, e := quad.Selves(f); n != x.want || e != api.OK {
				t.Errorf("Selves of %v: %d, %d instead of %d", f, n, e, x.want)
			}
		}
	}
}
