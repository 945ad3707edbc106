package game_test

import (
	"slices"
	"testing"

	"stadda/api"
	"stadda/game"
)

// P5.3: Canon, Negative, Sum, Birthday.

func TestKnownCanonicalForms(t *testing.T) {
	half := number(1, 1)
	switched := between(integer(4), between(integer(3), integer(-3)))
	for _, x := range [][2]string{
		{zero, zero}, {star, star}, {up, up}, {one, one}, {half, half}, {switched, switched}, {"{{|},{|}|{|},{|}}", star},
		// dominated options
		{of([]string{integer(3), integer(1), integer(2)}, nil), integer(4)}, {of(nil, []string{integer(-3), integer(1)}), integer(-4)},
		{of([]string{zero, down, integer(-1)}, []string{star, one}), up}, {of([]string{star, integer(-1)}, []string{zero, up, half}), down},
		// reversible options, replaced by some, by none, or again and again
		{between(integer(-1), one), zero}, {between(integer(-5), integer(7)), zero}, {between(one, integer(5)), integer(2)}, {between(integer(-9), integer(-2)), integer(-3)}, {between(half, integer(5)), one}, {between(number(1, 2), one), half},
		{between(star, star), zero}, {between(nim(2), nim(3)), zero}, {of([]string{star}, nil), zero}, {of(nil, []string{nim(2)}), zero}, {between(up, down), star}, {between(down, up), zero},
		{of([]string{zero, nim(2)}, []string{zero, nim(2)}), star}, {of([]string{zero, star, nim(3)}, []string{zero, star, nim(3)}), nim(2)}, {of([]string{zero, star, nim(4), nim(3)}, []string{nim(3), zero, star}), nim(2)},
		{between(of([]string{switched}, []string{of([]string{one}, []string{integer(9)})}), integer(9)), integer(2)},
		// no options that could be left out
		{of([]string{zero, star}, []string{zero}), of([]string{star, zero}, []string{zero})}, {between(zero, up), between(zero, up)}, {between(zero, between(zero, integer(-2))), between(zero, between(zero, integer(-2)))},
	} {
		for _, y := range [][2]string{x, {negativeOf(x[0]), plainOf(negativeOf(x[1]))}} {
			if c, e := game.Canon(y[0]); c != y[1] || e != api.OK {
				t.Errorf("Canon of %q: %q, %d instead of %q", y[0], c, e, y[1])
			}
		}
	}
}

// wantCanonical checks a canonical form by the definition.
func wantCanonical(t *testing.T, p play, g, c string) {
	t.Helper()
	if !p.isCanonical(c) || !p.equal(g, c) {
		t.Errorf("%q is not the canonical form of %q", c, g)
	}
}

func TestCanonicalForms(t *testing.T) {
	p := play{}
	for _, g := range slices.Concat(dayTwo(), various(531, 300)) {
		c := canon(t, g)
		wantCanonical(t, p, g, c)
		wantCanonical(t, p, negativeOf(g), minus(t, g))
		if n := minus(t, g); n != plainOf(negativeOf(c)) {
			t.Errorf("Negative of %q: %q", g, n)
		}
		if again := canon(t, c); again != c {
			t.Errorf("Canon of %q: %q", c, again)
		}
		if n, e := game.Birthday(g); n != nesting(c)-1 || e != api.OK {
			t.Errorf("Birthday of %q: %d, %d", g, n, e)
		}
	}
}

// There are 22 games with a birthday of at most 2.
func TestGamesOfDayTwo(t *testing.T) {
	forms := map[string]int{}
	for _, g := range dayTwo() {
		forms[canon(t, g)]++
	}
	if len(forms) != 22 {
		t.Errorf("%d canonical forms", len(forms))
	}
}

func TestBirthdays(t *testing.T) {
	for _, x := range []struct {
		g    string
		want int
	}{
		{zero, 0}, {one, 1}, {integer(-1), 1}, {star, 1}, {up, 2}, {number(1, 1), 2}, {nim(2), 2}, {nim(5), 5}, {integer(29), 29}, {integer(-29), 29}, {number(1, 4), 5}, {number(95, 4), 10},
		{between(integer(-5), integer(7)), 0}, {between(star, star), 0}, {between(one, integer(-1)), 2}, {between(integer(3), integer(7)), 4}, {between(up, down), 1},
	} {
		if n, e := game.Birthday(x.g); n != x.want || e != api.OK {
			t.Errorf("Birthday of %q: %d, %d instead of %d", x.g, n, e, x.want)
		}
	}
}

func TestSums(t *testing.T) {
	half := number(1, 1)
	for _, x := range [][3]string{
		{zero, zero, zero}, {zero, "{{|{|}}|{{|}|}}", zero}, {star, zero, star}, {star, star, zero}, {one, one, integer(2)}, {integer(3), integer(-5), integer(-2)}, {half, half, one}, {number(3, 2), number(-5, 3), number(1, 3)},
		{up, down, zero}, {up, star, of([]string{star, zero}, []string{zero})}, {up, up, between(zero, of([]string{star, zero}, []string{zero}))}, {nim(2), star, nim(3)}, {nim(5), nim(4), star}, {nim(4), star, nim(5)}, {nim(5), nim(5), zero},
		{between(one, integer(-1)), between(one, integer(-1)), zero}, {between(one, zero), one, between(integer(2), one)}, {between(one, zero), between(one, zero), one},
		{between(integer(2), integer(-2)), between(one, integer(-1)), between(between(integer(3), one), between(integer(-1), integer(-3)))},
	} {
		for _, y := range [][3]string{x, {x[1], x[0], x[2]}, {negativeOf(x[0]), negativeOf(x[1]), plainOf(negativeOf(x[2]))}} {
			if s, e := game.Sum(y[0], y[1]); s != y[2] || e != api.OK {
				t.Errorf("Sum of %q and %q: %q, %d instead of %q", y[0], y[1], s, e, y[2])
			}
		}
	}
}

// wantSum checks a sum by the definitions: who moves first in it, less its canonical form, loses.
func wantSum(t *testing.T, p play, g, h string) {
	t.Helper()
	s, e := game.Sum(g, h)
	if e != api.OK {
		t.Errorf("Sum of %q and %q: %d", g, h, e)
		return
	}
	parts := []string{plainOf(g), plainOf(h), negativeOf(s)}
	if !p.isCanonical(s) || p.wins(left, parts...) || p.wins(right, parts...) {
		t.Errorf("Sum of %q and %q: %q", g, h, s)
	}
}

func TestSumsByPlaying(t *testing.T) {
	p := play{}
	s := source{532}
	two := dayTwo()
	for range 3000 {
		wantSum(t, p, s.pick(two), s.pick(two))
	}
	games := various(533, 100)
	for range 300 {
		wantSum(t, p, s.pick(games), s.pick(two))
	}
	for range 300 {
		wantSum(t, p, s.small(4, 60), s.small(4, 60))
	}
	list := famous()
	for i, g := range list {
		wantSum(t, p, g, list[(i+5)%len(list)])
		wantSum(t, p, g, negativeOf(canon(t, g)))
	}
}

func TestSumsByTheDefinition(t *testing.T) {
	s := source{534}
	for range 500 {
		g, h := s.small(3, 40), s.small(3, 40)
		sum := plainOf(sumOf(g, h))
		if len(sum) > 2000 {
			continue
		}
		if c := canon(t, sum); c != total(t, g, h) {
			t.Errorf("Sum of %q and %q: %q instead of %q", g, h, total(t, g, h), c)
		}
	}
}

// row are n switches {x|y}, {x+1|y-1}, .. of integers: none is at least another one.
func row(n, x, y int) []string {
	var l []string
	for i := range n {
		l = append(l, between(integer(x+i), integer(y-i)))
	}
	return l
}

func TestLargeSums(t *testing.T) {
	// numbers are added to games that are none by adding them to all options
	for _, x := range []struct {
		g, sum string
		bytes  int
	}{
		{of(row(13, 12, 9), row(9, -16, -18)), of(row(13, 13, 10), row(9, -15, -17)), 2000},
		{of(row(11, 14, 12), row(12, -10, -15)), of(row(11, 15, 13), row(12, -9, -14)), 2001},
		{between(integer(27), integer(-20)), between(integer(28), integer(-19)), 150},
		{between(integer(28), integer(-20)), between(integer(29), integer(-19)), 153}, // 31 games one within the other
		{integer(28), integer(29), 90}, {integer(29), integer(30), 93},
	} {
		if len(x.g) > 2000 || len(x.sum) != x.bytes {
			t.Fatalf("games of %d and %d bytes", len(x.g), len(x.sum))
		}
		want, e := plainOf(x.sum), api.OK
		if x.bytes > 2000 || nesting(x.sum) > 30 {
			want, e = "", api.ErrLarge
		}
		if s, f := game.Sum(x.g, one); s != want || f != e {
			t.Errorf("Sum of %q and 1: %q, %d", x.g, s, f)
		}
		if e == api.OK {
			want = plainOf(negativeOf(want))
		}
		if s, f := game.Sum(integer(-1), negativeOf(x.g)); s != want || f != e {
			t.Errorf("Sum of -1 and the negative of %q: %q, %d", x.g, s, f)
		}
	}
	for _, x := range [][2]string{{integer(15), integer(15)}, {integer(29), one}, {integer(-29), integer(-29)}, {nim(5), nim(2)}, {nim(3), nim(5)}, {nim(4), nim(2)}, {integer(28), number(1, 1)}} {
		if s, e := game.Sum(x[0], x[1]); s != "" || e != api.ErrLarge {
			t.Errorf("Sum of %q and %q: %q, %d", x[0], x[1], s, e)
		}
	}
	for _, x := range [][3]string{{integer(15), integer(14), integer(29)}, {integer(-15), integer(-14), integer(-29)}, {integer(29), integer(-29), zero}, {integer(27), number(1, 1), number(55, 1)}} {
		if s, e := game.Sum(x[0], x[1]); s != x[2] || e != api.OK {
			t.Errorf("Sum of %q and %q: %q, %d", x[0], x[1], s, e)
		}
	}
}

// long is a game of about 2000 bytes and about 200 different parts: rows of moves, each to 0 or star or on, none of them at least another one, and -3.
func (s *source) long(t *testing.T) string {
	t.Helper()
	end := integer(-3)
	var rows []string
	for size := len(end); ; {
		g := s.line(t, 25)
		if size+len(g)+4 > 2000 {
			return of(rows, []string{end})
		}
		if !slices.ContainsFunc(rows, func(h string) bool { return comparable(t, g, h) }) {
			rows = append(rows, g)
			size += len(g) + 1
		}
	}
}

// line is a canonical game with so many moves one after the other.
func (s *source) line(t *testing.T, moves int) string {
	t.Helper()
	g := zero
	for range moves {
		for {
			x := s.pick([]string{zero, star})
			next := between(g, x)
			if s.Below(2) == 0 {
				next = between(x, g)
			}
			if canon(t, next) == next {
				g = next
				break
			}
		}
	}
	return g
}

func comparable(t *testing.T, g, h string) bool {
	t.Helper()
	is, e := game.AtLeast(g, h)
	isToo, f := game.AtLeast(h, g)
	if e != api.OK || f != api.OK {
		t.Fatalf("AtLeast: %d, %d", e, f)
	}
	return is || isToo
}

// P1: even the sums of games with many parts end.
func TestLongGames(t *testing.T) {
	s := source{535}
	g, h := s.long(t), s.line(t, 25)
	if c := canon(t, g); c != plainOf(g) {
		t.Errorf("Canon of %q: %q", g, c)
	}
	if sum, e := game.Sum(g, minus(t, g)); sum != zero || e != api.OK {
		t.Errorf("Sum of %q and its negative: %q, %d", g, sum, e)
	}
	if sum, e := game.Sum(g, h); sum != "" || e != api.ErrLarge {
		t.Errorf("Sum of %q and %q: %q, %d", g, h, sum, e)
	}
}
