package game_test

import (
	"slices"
	"testing"

	"stadda/api"
	"stadda/chance"
	"stadda/game"
	"stadda/num"
)

// P5.6, P5.7, P5.8.

// atLeast is what AtLeast returns.
func atLeast(t *testing.T, g, h string) bool {
	t.Helper()
	is, e := game.AtLeast(g, h)
	if e != api.OK {
		t.Fatalf("AtLeast of %q and %q: %d", g, h, e)
	}
	return is
}

// outcome is what Outcome returns.
func outcome(t *testing.T, g string) string {
	t.Helper()
	o, e := game.Outcome(g)
	if e != api.OK {
		t.Fatalf("Outcome of %q: %d", g, e)
	}
	return o
}

// value is the value of g, if it is a number.
func value(t *testing.T, g string) (num.Rat, bool) {
	t.Helper()
	v, is, e := game.Number(g)
	if e != api.OK {
		t.Fatalf("Number of %q: %d", g, e)
	}
	return v, is
}

// addends are games of which any three have a sum that is not too large.
func addends(seed chance.Source) []string {
	s := source{seed}
	games := slices.Concat(dayTwo(), []string{up, down, nim(3), number(3, 2), number(-13, 3), integer(6), between(integer(3), integer(-3)), between(zero, up), between(integer(2), between(one, zero))})
	for range 60 {
		games = append(games, s.small(4, 60))
	}
	return games
}

func TestSumsAreAGroup(t *testing.T) {
	games := addends(561)
	s := source{562}
	for range 2000 {
		g, h, k := s.pick(games), s.pick(games), s.pick(games)
		if l, r := total(t, total(t, g, h), k), total(t, g, total(t, h, k)); l != r {
			t.Errorf("sums of %q, %q, %q: %q and %q", g, h, k, l, r)
		}
		if l, r := total(t, g, h), total(t, h, g); l != r {
			t.Errorf("sums of %q, %q: %q and %q", g, h, l, r)
		}
		if sum := total(t, g, zero); sum != canon(t, g) {
			t.Errorf("%q and 0: %q", g, sum)
		}
		if sum := total(t, g, minus(t, g)); sum != zero {
			t.Errorf("%q and its negative: %q", g, sum)
		}
		if twice := minus(t, minus(t, g)); twice != canon(t, g) {
			t.Errorf("the negative of the negative of %q: %q", g, twice)
		}
	}
}

func TestSumsAndTheOrder(t *testing.T) {
	games := addends(563)
	s := source{564}
	for range 4000 {
		g, h, k := s.pick(games), s.pick(games), s.pick(games)
		is := atLeast(t, g, h)
		if o := outcome(t, total(t, g, minus(t, h))); is != (o == "L" || o == "P") {
			t.Errorf("AtLeast of %q and %q: %t, the outcome of the difference is %s", g, h, is, o)
		}
		if is != atLeast(t, total(t, g, k), total(t, h, k)) || is != atLeast(t, minus(t, h), minus(t, g)) {
			t.Errorf("AtLeast of %q and %q: %t, not so with %q added, or of the negatives", g, h, is, k)
		}
		if equal := is && atLeast(t, h, g); equal != (canon(t, g) == canon(t, h)) {
			t.Errorf("%q and %q are equal: %t", g, h, equal)
		}
		if is && atLeast(t, h, k) && !atLeast(t, g, k) {
			t.Errorf("AtLeast of %q, %q and %q", g, h, k)
		}
	}
}

func TestValuesOfSums(t *testing.T) {
	s := source{565}
	for range 1000 {
		k, l := s.Below(5), s.Below(5)
		m, n := s.From(-6<<k, 6<<k), s.From(-6<<l, 6<<l)
		want := plus(fraction(m, k), fraction(n, l))
		sum := total(t, number(m, k), number(n, l))
		wantNumber(t, sum, want)
		if g := number(m<<(6-k)+n<<(6-l), 6); sum != g {
			t.Errorf("%s: %q instead of %q", want, sum, g)
		}
		if is := atLeast(t, number(m, k), number(n, l)); is != (fraction(m, k).Cmp(fraction(n, l)) >= 0) {
			t.Errorf("AtLeast of %d/%d and %d/%d: %t", m, 1<<k, n, 1<<l, is)
		}
	}
}

// A number is, of those between the options, the one that was born first.
func TestNumbersAreTheSimplest(t *testing.T) {
	birthday := func(g string) int {
		n, e := game.Birthday(g)
		if e != api.OK {
			t.Fatalf("Birthday of %q: %d", g, e)
		}
		return n
	}
	fits := func(g, x string) bool {
		return !slices.ContainsFunc(split(g, left), func(l string) bool { return atLeast(t, l, x) }) && !slices.ContainsFunc(split(g, right), func(r string) bool { return atLeast(t, x, r) })
	}
	var games []string
	s := source{566}
	for range 150 {
		k := s.Below(4)
		m := s.From(-4<<k, 4<<k)
		games = append(games, between(number(m, k), number(m+s.From(1, 1<<k), k)))
	}
	found := 0
	for _, g := range slices.Concat(games, dayTwo(), various(567, 100)) {
		v, is := value(t, g)
		if !is {
			continue
		}
		found++
		if !fits(g, canon(t, g)) {
			t.Errorf("Number of %q: %s", g, v)
		}
		for m := -5 * 8; m <= 5*8; m++ {
			x := number(m, 3)
			if r := fraction(m, 3); r.Cmp(v) != 0 && birthday(x) <= birthday(g) && fits(g, x) {
				t.Errorf("Number of %q: %s, and %s", g, v, r)
			}
		}
	}
	if found < 300 {
		t.Errorf("only %d numbers", found)
	}
}

func TestMeansAddUp(t *testing.T) {
	games := slices.Concat(addends(568), famous())
	s := source{569}
	for range 3000 {
		g, h := s.pick(games), s.pick(games)
		sum, e := game.Sum(g, h)
		if e == api.ErrLarge {
			continue
		}
		m, heat := mean(t, sum)
		first, hot := mean(t, g)
		second, hotToo := mean(t, h)
		if hotToo.Cmp(hot) > 0 {
			hot = hotToo
		}
		if m.Cmp(plus(first, second)) != 0 || heat.Cmp(hot) > 0 {
			t.Errorf("%q and %q: means %s and %s, of the sum %s, temperature %s, at most %s", g, h, first, second, m, heat, hot)
		}
	}
}

func TestStopsAndMeans(t *testing.T) {
	for _, g := range slices.Concat(addends(570), various(571, 200)) {
		l, r := stops(t, g)
		m, heat := mean(t, g)
		if l.Cmp(m) < 0 || m.Cmp(r) < 0 || heat.Sign() < 0 {
			t.Errorf("%q: stops %s and %s, mean %s, temperature %s", g, l, r, m, heat)
		}
		if v, is := value(t, g); is && (l.Cmp(v) != 0 || r.Cmp(v) != 0 || m.Cmp(v) != 0 || heat.Sign() != 0) {
			t.Errorf("%q: value %s, stops %s and %s, mean %s, temperature %s", g, v, l, r, m, heat)
		}
	}
}

func TestOutcomesAndMoves(t *testing.T) {
	for _, g := range slices.Concat(dayTwo(), various(572, 300), limits()) {
		o := outcome(t, g)
		_, forLeft, e := game.Move(g, false)
		_, forRight, f := game.Move(g, true)
		if forLeft != (o == "L" || o == "N") || forRight != (o == "R" || o == "N") || e != api.OK || f != api.OK {
			t.Errorf("%q: outcome %s, moves %t, %d and %t, %d", g, o, forLeft, e, forRight, f)
		}
	}
}

func TestSumsOfStars(t *testing.T) {
	for m := range 6 {
		for n := range 6 {
			s, e := game.Sum(nim(m), nim(n))
			if m^n > 5 { // more than 2000 bytes
				if s != "" || e != api.ErrLarge {
					t.Errorf("Sum of the stars of %d and %d: %q, %d", m, n, s, e)
				}
				continue
			}
			if s != nim(m^n) || e != api.OK {
				t.Errorf("Sum of the stars of %d and %d: %q, %d", m, n, s, e)
			}
			wantStar(t, s, m^n)
		}
	}
}

// The examples of the chapter.
func TestExamples(t *testing.T) {
	one, half := fraction(1, 0), fraction(1, 1)
	wantOutcome(t, "{{{|}|}|{|}}", "N")
	wantStopsAndMean(t, "{{{|}|}|{|}}", one, num.Rat{}, half, half)
	wantOutcome(t, "{{|}|{|}}", "N")
	wantStar(t, "{{|}|{|}}", 1)
	wantStopsAndMean(t, "{{|}|{|}}", num.Rat{}, num.Rat{}, num.Rat{}, num.Rat{})
	if c, e := game.Canon("{{|{|}}|{{|}|}}"); c != "{|}" || e != api.OK {
		t.Errorf("Canon: %q, %d", c, e)
	}
	if g, e := game.Of(half); g != "{{|}|{{|}|}}" || e != api.OK {
		t.Errorf("Of: %q, %d", g, e)
	}
	if s, e := game.Sum("{{|}|{|}}", "{{|}|{|}}"); s != "{|}" || e != api.OK {
		t.Errorf("Sum: %q, %d", s, e)
	}
	if g, is, e := game.Move("{{|}|{|}}", false); g != "{|}" || !is || e != api.OK {
		t.Errorf("Move: %q, %t, %d", g, is, e)
	}
}
