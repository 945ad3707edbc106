package quad_test

import (
	"fmt"
	"math"
	"math/big"
	"testing"

	"stadda/api"
	"stadda/quad"
)

// P4.1: Check, Disc, Value, Change.

func TestForms(t *testing.T) {
	for _, f := range []quad.Form{
		{1, 0, 1}, {1, 1, 1}, {1, -1, 1}, {2, 2, 2}, {3, 7, 6}, {1, 0, 1_000_000}, {1_000_000, 0, 1}, {1_000_000, 1_000_000, 1_000_000}, {1_000_000, -1_000_000, 1_000_000},
		{1_000_000, 1_000_000, 250_001}, {250_001, -1_000_000, 1_000_000}, {1, 1999, 999_001}, {500_000, 1_000_000, 500_001},
	} {
		if e := quad.Check(f); e != api.OK {
			t.Errorf("Check of %v: %d", f, e)
		}
		if d, e := quad.Disc(f); d != disc(f) || e != api.OK {
			t.Errorf("Disc of %v: %d, %d instead of %d", f, d, e, disc(f))
		}
	}
}

func TestAllSmallForms(t *testing.T) {
	for a := int64(-3); a <= 9; a++ {
		for b := int64(-12); b <= 12; b++ {
			for c := int64(-3); c <= 9; c++ {
				f := quad.Form{a, b, c}
				want := api.ErrQuad
				if a > 0 && disc(f) < 0 {
					want = api.OK
				}
				d, e := quad.Disc(f)
				if quad.Check(f) != want || e != want || e == api.OK && d != disc(f) || e != api.OK && d != 0 {
					t.Errorf("%v: Check %d, Disc %d, %d", f, quad.Check(f), d, e)
				}
			}
		}
	}
}

// A form that is none comes first, whatever else is wrong.
func TestNoForms(t *testing.T) {
	good, m := quad.Form{2, 1, 3}, matrix{{1, 0}, {0, 2}}
	for _, f := range notForms() {
		fail(t, fmt.Sprint("Check of ", f), struct{}{}, quad.Check(f), api.ErrQuad)
		d, e := quad.Disc(f)
		fail(t, "Disc", d, e, api.ErrQuad)
		v, e := quad.Value(f, 3, 4)
		fail(t, "Value", v.Sign(), e, api.ErrQuad)
		g, e := quad.Change(f, m)
		fail(t, "Change", g, e, api.ErrQuad)
		g, n, e := quad.Reduce(f)
		fail(t, "Reduce", g, e, api.ErrQuad)
		fail(t, "Reduce, the change", n, e, api.ErrQuad)
		for _, p := range [][2]quad.Form{{f, good}, {good, f}, {f, f}, {f, {2, 2, 2}}, {{2, 2, 2}, f}} {
			n, ok, e := quad.Alike(p[0], p[1])
			fail(t, "Alike", n, e, api.ErrQuad)
			fail(t, "Alike, the truth", ok, e, api.ErrQuad)
			g, e = quad.Product(p[0], p[1])
			fail(t, "Product", g, e, api.ErrQuad)
		}
		count, e := quad.Selves(f)
		fail(t, "Selves", count, e, api.ErrQuad)
		count, e = quad.Order(f)
		fail(t, "Order", count, e, api.ErrQuad)
		points, e := quad.Points(f, 0)
		failList(t, "Points", points, e, api.ErrQuad)
		points, e = quad.Points(f, 1)
		failList(t, "Points", points, e, api.ErrQuad)
		l, e := quad.Characters(f)
		failList(t, "Characters", l, e, api.ErrQuad)
	}
}

func TestValues(t *testing.T) {
	s := source{411}
	ends := []int64{math.MinInt64, math.MinInt64 + 1, -1, 0, 1, 2, math.MaxInt64 - 1, math.MaxInt64, 1 << 62, -1 << 32}
	for range 500 {
		f := s.form([]int64{5, 1000, 1_000_000}[s.Below(3)])
		x, y := int64(s.Next()), int64(s.Next())
		if s.Below(2) == 0 {
			x = ends[s.Below(len(ends))]
		}
		if s.Below(2) == 0 {
			y = ends[s.Below(len(ends))]
		}
		v, e := quad.Value(f, x, y)
		want := large(f, big.NewInt(x), big.NewInt(y))
		if e != api.OK || v.String() != want.String() {
			t.Errorf("Value of %v at %d, %d: %s, %d instead of %s", f, x, y, v, e, want)
		}
	}
	f := quad.Form{1_000_000, 1_000_000, 1_000_000}
	if v, e := quad.Value(f, math.MinInt64, math.MinInt64); v.String() != "255211775190703847597530955573826158592000000" || e != api.OK {
		t.Errorf("Value: %s, %d", v, e)
	}
}

func TestChanges(t *testing.T) {
	s := source{412}
	tooLarge := 0
	for range 3000 {
		f, m := s.form([]int64{5, 1000, 1_000_000}[s.Below(3)]), s.change([]int64{5, 1000, 1_000_000}[s.Below(3)])
		g, e := quad.Change(f, m)
		want, _ := moved(f, m)
		if max(want[0], abs(want[1]), want[2]) > 1_000_000 {
			tooLarge++
			fail(t, fmt.Sprint("Change of ", f, " by ", m), g, e, api.ErrQuad)
			continue
		}
		if g != want || e != api.OK {
			t.Errorf("Change of %v by %v: %v, %d instead of %v", f, m, g, e, want)
		}
	}
	if tooLarge < 300 || tooLarge > 2700 {
		t.Errorf("%d of the forms are too large", tooLarge)
	}
}

func TestNoChanges(t *testing.T) {
	f := quad.Form{1, 0, 1}
	for _, m := range []matrix{
		{}, {{1, 0}, {0, -1}}, {{0, 1}, {1, 0}}, {{1, 0}, {0, 0}}, {{1, 0}, {0, 2}}, {{2, 1}, {1, 0}}, {{1, 1}, {1, 1}}, {{1000, 999}, {1000, 999}}, {{1000, 0}, {0, 1000}},
		{{1 << 32, 1}, {-1, 1 << 32}}, {{1 << 32, 1 << 32}, {1<<32 - 1, 1 << 32}}, {{1_000_000, 1_000_000}, {1_000_000, 1_000_000}}, // the first two have the determinant 1 by wrapped numbers
	} {
		g, e := quad.Change(f, m)
		fail(t, fmt.Sprint("Change by ", m), g, e, api.ErrArg)
	}
	for _, n := range extremes {
		for _, m := range []matrix{{{n, -1}, {1, 0}}, {{0, 1}, {-1, n}}, {{1, n}, {0, 1}}, {{1, 0}, {n, 1}}} {
			g, e := quad.Change(f, m) // of the determinant 1, and what they take the form to is too large
			fail(t, fmt.Sprint("Change by ", m), g, e, api.ErrArg)
		}
	}
	for _, n := range []int64{-1_000_000, 1_000_000} {
		for _, m := range []matrix{{{n, -1}, {1, 0}}, {{0, 1}, {-1, n}}, {{1, n}, {0, 1}}, {{1, 0}, {n, 1}}} {
			g, e := quad.Change(f, m)
			fail(t, fmt.Sprint("Change by ", m), g, e, api.ErrQuad)
		}
	}
}

// Changes with a number of 10^6 that take a form to another, and such with 10^6 + 1: each number of the change is the great one for once.
func TestGreatestChanges(t *testing.T) {
	for _, x := range []struct {
		f, g quad.Form
		m    matrix
		want api.Errno
	}{
		{quad.Form{126139, -620795, 763813}, quad.Form{987133, 676741, 115987}, matrix{{1_000_000, 342781}, {406379, 139299}}, api.OK},
		{quad.Form{7669, 172859, 974059}, quad.Form{845299, 705269, 147109}, matrix{{-1_000_000, -417171}, {88731, 37016}}, api.OK},
		{quad.Form{7347, -154887, 816319}, quad.Form{972903, -300417, 23191}, matrix{{1_000_001, -154392}, {94869, -14647}}, api.ErrArg},
		{quad.Form{30729, 326649, 868069}, quad.Form{872347, -400391, 45943}, matrix{{-1_000_001, 229491}, {188147, -43178}}, api.ErrArg},
	} {
		for i := range 4 {
			f, g, m := x.f, x.g, x.m
			if i%2 == 1 { // the rows are exchanged
				f, m = quad.Form{f[2], -f[1], f[0]}, matrix{m[1], {-m[0][0], -m[0][1]}}
			}
			if i >= 2 { // the columns are exchanged
				g, m = quad.Form{g[2], -g[1], g[0]}, matrix{{m[0][1], -m[0][0]}, {m[1][1], -m[1][0]}}
			}
			if !takes(f, g, m) {
				t.Fatalf("%v does not take %v to %v", m, f, g)
			}
			h, e := quad.Change(f, m)
			if x.want != api.OK {
				fail(t, fmt.Sprint("Change of ", f, " by ", m), h, e, x.want)
			} else if h != g || e != api.OK {
				t.Errorf("Change of %v by %v: %v, %d instead of %v", f, m, h, e, g)
			}
		}
	}
}

// Each of the three numbers, at its limit and beyond.
func TestGreatestChangedForms(t *testing.T) {
	for _, x := range []struct {
		f    quad.Form
		m    matrix
		want quad.Form
	}{
		{quad.Form{1, 0, 999_999}, matrix{{1, 1}, {0, 1}}, quad.Form{1, 2, 1_000_000}},
		{quad.Form{1, 0, 1_000_000}, matrix{{1, 1}, {0, 1}}, quad.Form{}},
		{quad.Form{999_999, 0, 1}, matrix{{1, 0}, {1, 1}}, quad.Form{1_000_000, 2, 1}},
		{quad.Form{1_000_000, 0, 1}, matrix{{1, 0}, {1, 1}}, quad.Form{}},
		{quad.Form{500_000, 0, 1}, matrix{{1, 1}, {0, 1}}, quad.Form{500_000, 1_000_000, 500_001}},
		{quad.Form{500_001, 0, 1}, matrix{{1, 1}, {0, 1}}, quad.Form{}},
		{quad.Form{500_000, 0, 1}, matrix{{1, -1}, {0, 1}}, quad.Form{500_000, -1_000_000, 500_001}},
		{quad.Form{500_000, -1, 1}, matrix{{1, -1}, {0, 1}}, quad.Form{}},
	} {
		g, e := quad.Change(x.f, x.m)
		if x.want == (quad.Form{}) {
			fail(t, fmt.Sprint("Change of ", x.f, " by ", x.m), g, e, api.ErrQuad)
		} else if g != x.want || e != api.OK {
			t.Errorf("Change of %v by %v: %v, %d instead of %v", x.f, x.m, g, e, x.want)
		}
	}
}
