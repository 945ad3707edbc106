package game_test

import (
	"slices"
	"strings"
	"testing"

	"stadda/api"
	"stadda/game"
	"stadda/num"
)

// P5.4: Number, Of, Star.

func wantNumber(t *testing.T, g string, want num.Rat) {
	t.Helper()
	if v, is, e := game.Number(g); v.Cmp(want) != 0 || v.String() != want.String() || !is || e != api.OK {
		t.Errorf("Number of %q: %s, %t, %d instead of %s", g, v, is, e, want)
	}
}

func wantNoNumber(t *testing.T, g string) {
	t.Helper()
	if v, is, e := game.Number(g); v.Sign() != 0 || is || e != api.OK {
		t.Errorf("Number of %q: %s, %t, %d", g, v, is, e)
	}
}

func TestNumbers(t *testing.T) {
	for m := -29; m <= 29; m++ {
		wantNumber(t, integer(m), fraction(m, 0))
	}
	for k := range 8 {
		for m := -5 << k; m <= 5<<k; m++ {
			wantNumber(t, number(m, k), fraction(m, k))
		}
	}
	half := number(1, 1)
	for _, x := range []struct {
		g    string
		want num.Rat
	}{
		{between(star, star), fraction(0, 0)}, {between(integer(-4), half), fraction(0, 0)}, {between(half, integer(6)), fraction(1, 0)}, {between(integer(-6), integer(-2)), fraction(-3, 0)},
		{between(number(1, 2), number(7, 3)), fraction(1, 1)}, {between(number(-7, 3), number(-5, 3)), fraction(-3, 2)}, {between(number(5, 4), number(3, 3)), fraction(11, 5)},
		{of([]string{zero, star, down}, []string{one, between(integer(4), one)}), fraction(1, 1)}, {between(star, one), fraction(0, 0)}, {between(up, one), fraction(1, 1)}, {between(down, one), fraction(0, 0)}, {between(one, between(integer(2), one)), fraction(2, 0)}, {of([]string{integer(2), star}, nil), fraction(3, 0)},
		{sumOf(up, down), fraction(0, 0)}, {sumOf(number(1, 2), number(1, 1)), fraction(3, 2)}, {sumOf(between(one, zero), between(one, zero)), fraction(1, 0)},
	} {
		wantNumber(t, x.g, x.want)
		wantNumber(t, negativeOf(x.g), x.want.Neg())
	}
	for _, g := range []string{star, up, down, nim(2), between(one, zero), between(one, one), between(half, half), between(integer(2), integer(-7)), between(half, number(1, 2)), between(zero, up), between(integer(3), between(integer(2), zero)), between(one, between(one, zero)), of([]string{zero, star}, []string{zero}), sumOf(half, star), of([]string{integer(-1), star}, []string{star, zero})} {
		wantNoNumber(t, g)
		wantNoNumber(t, negativeOf(g))
	}
}

// A number is equal to a number game, which is not born later than the game.
func TestNumbersByPlaying(t *testing.T) {
	p := play{}
	for _, g := range slices.Concat(dayTwo(), various(541, 200)) {
		if nesting(g) > 5 {
			continue
		}
		is := false
		for m := -4 << 3; m <= 4<<3; m++ {
			if n := number(m, 3); nesting(n) <= 5 && p.equal(g, n) {
				is = true
				wantNumber(t, g, fraction(m, 3))
			}
		}
		if !is {
			wantNoNumber(t, g)
		}
	}
}

func TestOf(t *testing.T) {
	for m := -6 * 16; m <= 6*16; m++ {
		if g, e := game.Of(fraction(m, 4)); g != number(m, 4) || e != api.OK {
			t.Errorf("Of(%s): %q, %d", fraction(m, 4), g, e)
		}
	}
	for _, x := range [][2]string{{"0", zero}, {"1/2", "{{|}|{{|}|}}"}, {"-1/2", "{{|{|}}|{|}}"}, {"-2", "{|{|{|}}}"}, {"3/4", "{{{|}|{{|}|}}|{{|}|}}"}} {
		r, _ := num.Parse(x[0])
		if g, e := game.Of(r); g != x[1] || e != api.OK {
			t.Errorf("Of(%s): %q, %d", r, g, e)
		}
	}
	if g, e := game.Of(num.Rat{}); g != zero || e != api.OK {
		t.Errorf("Of(0): %q, %d", g, e)
	}
	huge := strings.Repeat("9", 1000)
	for _, s := range []string{"7", "-7", "97/16", "-97/16", "13/2", "-13/2", "25/4", "-49/8", "1/3", "-1/3", "2/3", "1/5", "5/6", "7/12", "1/15", "1/17", "1/24", "1/32", "-1/32", "191/32", "1/48", "1/64", "1000001/1000000", huge, "-" + huge, "1/" + huge, huge + "/16", huge + "/2", "9223372036854775808", "1/18446744073709551616", "1/18446744073709551617", "1/36893488147419103232", "18446744073709551617/16"} {
		r, e := num.Parse(s)
		if e != api.OK {
			t.Fatalf("Parse of %.40s: %d", s, e)
		}
		if g, e := game.Of(r); g != "" || e != api.ErrArg {
			t.Errorf("Of(%.40s): %q, %d", s, g, e)
		}
	}
}

func wantStar(t *testing.T, g string, want int) {
	t.Helper()
	if n, is, e := game.Star(g); n != want || !is || e != api.OK {
		t.Errorf("Star of %q: %d, %t, %d instead of %d", g, n, is, e, want)
	}
}

func wantNoStar(t *testing.T, g string) {
	t.Helper()
	if n, is, e := game.Star(g); n != 0 || is || e != api.OK {
		t.Errorf("Star of %q: %d, %t, %d", g, n, is, e)
	}
}

func TestStars(t *testing.T) {
	for n := range 6 {
		wantStar(t, nim(n), n)
	}
	two := nim(2)
	for _, x := range []struct {
		g    string
		want int
	}{
		{between(star, star), 0}, {between(integer(-2), integer(5)), 0}, {between(two, nim(3)), 0}, {sumOf(up, down), 0}, {of([]string{star}, nil), 0},
		{of([]string{zero, two}, []string{zero, two}), 1}, {between(up, down), 1}, {of([]string{zero, down}, []string{up, zero}), 1}, {sumOf(two, star), 3}, {of([]string{zero, up}, []string{zero, up}), 1},
		{of([]string{nim(3), zero, star}, []string{zero, star}), 2}, {of([]string{zero, star, integer(-1)}, []string{zero, star, one}), 2}, {of([]string{zero, star, between(one, integer(-1))}, []string{zero, between(one, integer(-1)), star}), 2}, {of([]string{two, star, zero, nim(4)}, []string{nim(5), zero, two, star}), 3},
	} {
		wantStar(t, x.g, x.want)
		wantStar(t, negativeOf(x.g), x.want)
	}
	for _, g := range []string{one, integer(3), number(1, 1), up, between(one, integer(-1)), between(one, one), of([]string{star, zero}, []string{zero}), of([]string{star, zero}, []string{up}), sumOf(one, star), between(zero, up), of([]string{zero, star, up}, []string{zero, star}), of([]string{zero, star, between(one, zero)}, []string{zero, star, between(one, zero)}), of([]string{zero, star, two}, []string{zero, star}), of([]string{zero, star}, []string{zero, star, two})} {
		wantNoStar(t, g)
		wantNoStar(t, negativeOf(g))
	}
}

// A star is equal to one that is not born later than the game.
func TestStarsByPlaying(t *testing.T) {
	p := play{}
	s := source{542}
	games := slices.Concat(dayTwo(), various(543, 200))
	stars := []string{zero, star, nim(2), nim(3), up, down}
	for range 400 {
		var sides [2][]string
		for player := range sides {
			for range s.From(1, 8) {
				sides[player] = append(sides[player], s.pick(stars[:4+s.Below(5)/2]))
			}
		}
		games = append(games, of(sides[left], sides[right]))
	}
	found := [5]int{}
	for _, g := range games {
		n := slices.IndexFunc([]string{zero, star, nim(2), nim(3), nim(4)}, func(h string) bool { return p.equal(g, h) })
		if n < 0 {
			wantNoStar(t, g)
		} else {
			wantStar(t, g, n)
			found[n]++
		}
	}
	if slices.Contains(found[:], 0) {
		t.Errorf("stars found: %v", found)
	}
}
