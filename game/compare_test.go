package game_test

import (
	"slices"
	"testing"

	"stadda/api"
	"stadda/game"
)

// P5.2: Outcome, AtLeast, Move; P5.8: Left wins, moving first, just if Move finds an option.

func wantOutcome(t *testing.T, g, want string) {
	t.Helper()
	if o, e := game.Outcome(g); o != want || e != api.OK {
		t.Errorf("Outcome of %q: %q, %d instead of %q", g, o, e, want)
	}
}

func TestOutcomes(t *testing.T) {
	for _, x := range [][2]string{
		{zero, "P"}, {one, "L"}, {integer(-1), "R"}, {star, "N"}, {up, "L"}, {down, "R"},
		{between(one, integer(-1)), "N"}, {between(one, zero), "N"}, {between(zero, integer(-1)), "N"}, {between(integer(2), one), "L"}, {between(integer(-1), integer(-2)), "R"},
		{between(star, star), "P"}, {between(integer(-3), integer(2)), "P"}, {number(1, 4), "L"}, {number(-1, 4), "R"}, {nim(4), "N"}, {between(zero, up), "L"},
		{of([]string{star, one}, []string{zero, integer(-1)}), "N"}, {nested(30, left), "L"}, {nested(30, right), "R"},
	} {
		wantOutcome(t, x[0], x[1])
	}
	p := play{}
	for _, g := range slices.Concat(dayTwo(), various(521, 300)) {
		wantOutcome(t, g, p.outcome(plainOf(g)))
	}
}

func TestAtLeast(t *testing.T) {
	for _, x := range []struct {
		g, h string
		want bool
	}{
		{zero, zero, true}, {star, star, true}, {one, zero, true}, {zero, one, false}, {star, zero, false}, {zero, star, false},
		{up, zero, true}, {zero, up, false}, {up, star, false}, {star, up, false}, {number(1, 4), up, true}, {up, number(1, 4), false}, {up, number(-1, 4), true},
		{between(star, star), zero, true}, {zero, between(star, star), true}, {between(one, zero), number(1, 1), false}, {number(1, 1), between(one, zero), false},
		{between(zero, up), star, true}, {star, between(zero, up), false}, {nim(2), star, false}, {between(one, zero), zero, false}, {one, between(one, zero), false}, {integer(2), between(one, zero), true},
	} {
		if is, e := game.AtLeast(x.g, x.h); is != x.want || e != api.OK {
			t.Errorf("AtLeast of %q and %q: %t, %d", x.g, x.h, is, e)
		}
	}
	p := play{}
	wantAtLeast := func(g, h string) {
		t.Helper()
		want := p.atLeast(g, h)
		if is, e := game.AtLeast(g, h); is != want || e != api.OK {
			t.Errorf("AtLeast of %q and %q: %t, %d instead of %t", g, h, is, e, want)
		}
	}
	two := dayTwo()
	for i, g := range two {
		for j := i % 5; j < len(two); j += 5 {
			wantAtLeast(g, two[j])
		}
	}
	games := various(522, 60)
	s := source{523}
	for range 6000 {
		wantAtLeast(s.pick(games), s.pick(games))
	}
}

// wantMove checks what Move returns for a game and a player.
func wantMove(t *testing.T, p play, g string, player int) {
	t.Helper()
	plain := plainOf(g)
	x, is, e := game.Move(g, player == right)
	if e != api.OK || is != p.wins(player, plain) || !is && x != "" {
		t.Errorf("Move in %q of %d: %q, %t, %d", g, player, x, is, e)
	}
	if is && (!slices.Contains(split(plain, player), x) || p.wins(1-player, x)) {
		t.Errorf("Move in %q of %d: %q", g, player, x)
	}
}

func TestMoves(t *testing.T) {
	p := play{}
	s := source{524}
	games := slices.Concat(dayTwo(), various(525, 300))
	games = append(games, "{{{|},{|}|}|{|{|},{|}}}", "{{|{|},{|}},{{|},{|}|{|},{|}},{{|},{|}|}|}", "{|{{|},{|}|},{{|},{|}|{|},{|}},{|{|},{|}}}") // the plain text of an option is asked for
	for range 300 {
		games = append(games, s.small(6, 1000))
	}
	for _, g := range games {
		wantMove(t, p, g, left)
		wantMove(t, p, g, right)
	}
}

func TestMovesThatAreTheOnlyOnes(t *testing.T) {
	lost, won := integer(-1), integer(1)
	for _, x := range []struct {
		g      string
		player int
		want   string
	}{
		{star, left, zero}, {star, right, zero}, {of([]string{lost, star, won}, nil), left, won}, {of([]string{lost, star, zero}, nil), left, zero}, {of(nil, []string{won, star, lost}), right, lost}, {of(nil, []string{won, star, zero}), right, zero},
		{of([]string{up, down, star}, []string{star, up, down}), left, up}, {of([]string{up, down, star}, []string{star, up, down}), right, down},
		{"{{{|},{|}|}|}", left, one}, {"{|{|{|},{|}}}", right, integer(-1)},
	} {
		if g, is, e := game.Move(x.g, x.player == right); g != x.want || !is || e != api.OK {
			t.Errorf("Move in %q of %d: %q, %t, %d instead of %q", x.g, x.player, g, is, e, x.want)
		}
	}
	for _, g := range []string{zero, of([]string{lost, star}, []string{won, star}), between(star, star), of([]string{lost}, nil), of(nil, []string{won}), between(down, up)} {
		for _, forRight := range []bool{false, true} {
			if x, is, e := game.Move(g, forRight); x != "" || is || e != api.OK {
				t.Errorf("Move in %q, %t: %q, %t, %d", g, forRight, x, is, e)
			}
		}
	}
}
