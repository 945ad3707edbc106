package game_test

import (
	"slices"
	"strings"
	"testing"

	"stadda/api"
	"stadda/game"
)

// P5.1: Check, Plain, Options, and the errors of all functions that take games.

// nested is a game with so many games one within the other, each an option of that player.
func nested(n, player int) string {
	g := zero
	for range n - 1 {
		var sides [2][]string
		sides[player] = []string{g}
		g = of(sides[left], sides[right])
	}
	return g
}

// wide is a game of so many bytes whose options are 0, 1 and -1.
func wide(bytes int) string {
	for sixes := range 4 { // options of 6 bytes
		if rest := bytes - 2 - 7*sixes; rest%4 == 0 {
			options := slices.Repeat([]string{zero}, rest/4)
			return of(append(options, slices.Repeat([]string{one}, sixes)...), nil)
		}
	}
	return ""
}

// notGames are strings that are no game, but not too long.
func notGames() []string {
	list := []string{"", "{", "|", "}", ",", "{|", "|}", "{}", "{||}", "{|}}", "{{|}", "{|}{|}", "{|},{|}", "{|},", ",{|}", "{,|}", "{|,}", "{{|},|}", "{,{|}|}", "{|{|},}", "{|,{|}}", "{{|},,{|}|}", "{{|}{|}|}", "{|{|}{|}}", "{{|}|{|}|}", "{{|}|{|}|{|}}", " {|}", "{|} ", "{ |}", "{| }", "{|}\n", "{|\x00}", "0", "{0|}", "{a|}", "(|)", "[|]", "{/}", "{;|}", "{｜}", "{|}é", "\xff"}
	for _, player := range []int{left, right} {
		list = append(list, nested(31, player), nested(32, player), nested(400, player))
	}
	list = append(list, of([]string{zero, nested(30, left)}, []string{zero}), of([]string{zero}, []string{one, nested(30, right), zero}))
	list = append(list, strings.Repeat("{", 2000), strings.Repeat("}", 2000), strings.Repeat("{|", 1000), strings.Repeat("x", 2000), wide(2000)[:1999]+",", wide(1999)+"}", wide(1999)+" ")
	return list
}

// longs are strings that are too long.
func longs() []string {
	return []string{wide(2001), wide(2004), wide(5000), strings.Repeat("{", 2001), strings.Repeat("x", 2001), nested(667, left), wide(1998) + "   ", strings.Repeat("x", 100_000)}
}

// limits are games that are just not too large.
func limits() []string {
	list := []string{wide(1997), wide(1998), wide(1999), wide(2000), nested(30, left), nested(30, right), nested(29, left)}
	list = append(list, of([]string{one, nested(29, right)}, []string{nested(29, left), zero, nested(28, left)}))
	deep := nested(29, left)
	many := slices.Repeat([]string{deep}, 2000/(len(deep)+1)-1)
	return append(list, of(many, nil), of(nil, many))
}

func TestWideGames(t *testing.T) {
	for _, n := range []int{1997, 1998, 1999, 2000, 2001} {
		if rest, ok := isGame(wide(n), 30); !ok || rest != "" || len(wide(n)) != n {
			t.Errorf("wide(%d): %d bytes", n, len(wide(n)))
		}
	}
}

func TestCheck(t *testing.T) {
	for _, g := range slices.Concat(limits(), famous(), dayTwo()) {
		if e := game.Check(g); e != api.OK {
			t.Errorf("Check of %q: %d", g, e)
		}
	}
	for _, g := range notGames() {
		if e := game.Check(g); e != api.ErrGame {
			t.Errorf("Check of %q: %d", g, e)
		}
	}
	for _, g := range longs() {
		if e := game.Check(g); e != api.ErrLong {
			t.Errorf("Check of %.50q: %d", g, e)
		}
	}
}

// wantCheck compares with the grammar.
func wantCheck(t *testing.T, g string) {
	t.Helper()
	want := api.ErrGame
	if rest, ok := isGame(g, 30); ok && rest == "" {
		want = api.OK
	}
	if e := game.Check(g); e != want {
		t.Errorf("Check of %q: %d instead of %d", g, e, want)
	}
}

func TestCheckOfAllShortStrings(t *testing.T) {
	var all func(prefix string)
	all = func(prefix string) {
		wantCheck(t, prefix)
		if len(prefix) < 9 {
			for _, c := range []string{"{", "|", "}", ","} {
				all(prefix + c)
			}
		}
	}
	all("")
}

func TestCheckOfChangedGames(t *testing.T) {
	s := source{511}
	for range 20_000 {
		g := s.small(6, 300)
		for range s.From(1, 2) {
			i := s.Below(len(g) + 1)
			switch j := min(i+s.From(0, 3), len(g)); s.Below(3) {
			case 0:
				g = g[:i] + string("{|},"[s.Below(4)]) + g[i:]
			case 1:
				g = g[:i] + g[j:]
			case 2:
				g = g[:i] + string([]byte{byte(s.Below(256))}) + g[j:]
			}
		}
		wantCheck(t, g)
	}
}

func TestPlainAndOptions(t *testing.T) {
	for _, x := range [][2]string{
		{zero, zero},
		{"{{|},{|}|}", one},
		{"{|{|},{|},{|}}", "{|{|}}"},
		{"{{|},{{|}|}|}", "{{{|}|},{|}|}"},
		{"{{{|}|},{|}|}", "{{{|}|},{|}|}"},
		{"{{|},{|{|}}|{|{|}},{|}}", "{{|{|}},{|}|{|{|}},{|}}"},
		{"{{{|},{{|}|}|},{{{|}|},{|}|}|}", "{{{{|}|},{|}|}|}"}, // options that differ in the order of theirs
		{"{|{{|},{|}|{|}},{{|}|{|},{|}}}", "{|{{|}|{|}}}"},
	} {
		if p, e := game.Plain(x[0]); p != x[1] || e != api.OK {
			t.Errorf("Plain of %q: %q, %d instead of %q", x[0], p, e, x[1])
		}
	}
	games := slices.Concat(various(512, 200), limits())
	s := source{513}
	for range 300 {
		games = append(games, s.small(7, 2000))
	}
	for _, g := range games {
		want := plainOf(g)
		p, e := game.Plain(g)
		if p != want || e != api.OK {
			t.Errorf("Plain of %q: %q, %d instead of %q", g, p, e, want)
		}
		l, r, e := game.Options(g)
		if !slices.Equal(l, split(want, left)) || !slices.Equal(r, split(want, right)) || e != api.OK {
			t.Errorf("Options of %q: %q, %q, %d", g, l, r, e)
		}
		if again, e := game.Plain(p); again != p || e != api.OK {
			t.Errorf("Plain of %q: %q, %d", p, again, e)
		}
	}
}

func TestOptionsAreNewMemory(t *testing.T) {
	g := of([]string{one, zero}, []string{zero, star})
	l, r, _ := game.Options(g)
	l[0], r[0] = "x", "y"
	l = append(l, "z")
	again, others, _ := game.Options(g)
	if !slices.Equal(again, []string{one, zero}) || !slices.Equal(others, []string{star, zero}) || len(l) != 3 || r[1] != zero {
		t.Errorf("Options of %q: %q, %q", g, again, others)
	}
}

// result is what a call returned.
type result struct {
	isZero bool
	e      api.Errno
}

// callsOf are the results of all functions that take a game, called with g, by their names.
func callsOf(g string) map[string]result {
	list := map[string]result{"Check": {true, game.Check(g)}}
	plain, e := game.Plain(g)
	list["Plain"] = result{plain == "", e}
	l, r, e := game.Options(g)
	list["Options"] = result{len(l) == 0 && len(r) == 0, e}
	outcome, e := game.Outcome(g)
	list["Outcome"] = result{outcome == "", e}
	is, e := game.AtLeast(g, zero)
	list["AtLeast"] = result{!is, e}
	is, e = game.AtLeast(zero, g)
	list["AtLeast 0"] = result{!is, e}
	c, e := game.Canon(g)
	list["Canon"] = result{c == "", e}
	n, e := game.Negative(g)
	list["Negative"] = result{n == "", e}
	sum, e := game.Sum(g, one)
	list["Sum"] = result{sum == "", e}
	sum, e = game.Sum(one, g)
	list["Sum with 1"] = result{sum == "", e}
	day, e := game.Birthday(g)
	list["Birthday"] = result{day == 0, e}
	value, is, e := game.Number(g)
	list["Number"] = result{value.Sign() == 0 && !is, e}
	k, is, e := game.Star(g)
	list["Star"] = result{k == 0 && !is, e}
	first, second, e := game.Stops(g)
	list["Stops"] = result{first.Sign() == 0 && second.Sign() == 0, e}
	first, second, e = game.Mean(g)
	list["Mean"] = result{first.Sign() == 0 && second.Sign() == 0, e}
	move, is, e := game.Move(g, false)
	list["Move"] = result{move == "" && !is, e}
	move, is, e = game.Move(g, true)
	list["Move of Right"] = result{move == "" && !is, e}
	return list
}

func TestNoGames(t *testing.T) {
	for want, list := range map[api.Errno][]string{api.ErrGame: notGames(), api.ErrLong: longs()} {
		for _, g := range list {
			for name, r := range callsOf(g) {
				if r.e != want || !r.isZero {
					t.Errorf("%s of %.50q: %d, zero: %t", name, g, r.e, r.isZero)
				}
			}
		}
	}
}

func TestFirstOfTwoErrors(t *testing.T) {
	for _, x := range []struct {
		g, h string
		want api.Errno
	}{
		{"{", wide(2001), api.ErrGame}, {nested(31, left), wide(2001), api.ErrGame}, {wide(2001), "{", api.ErrLong}, {strings.Repeat("x", 2001), nested(31, right), api.ErrLong},
		{one, wide(2001), api.ErrLong}, {one, "x", api.ErrGame}, {"", one, api.ErrGame}, {wide(2001), one, api.ErrLong},
		{nested(30, left), nested(31, left), api.ErrGame}, {nested(30, left), wide(2004), api.ErrLong}, // the sum would be too large, too
	} {
		if is, e := game.AtLeast(x.g, x.h); is || e != x.want {
			t.Errorf("AtLeast of %.40q and %.40q: %t, %d instead of %d", x.g, x.h, is, e, x.want)
		}
		if s, e := game.Sum(x.g, x.h); s != "" || e != x.want {
			t.Errorf("Sum of %.40q and %.40q: %.40q, %d instead of %d", x.g, x.h, s, e, x.want)
		}
	}
}

func TestGamesAtTheLimits(t *testing.T) {
	for _, g := range limits() {
		for name, r := range callsOf(g) {
			if r.e != api.OK && !(strings.HasPrefix(name, "Sum") && r.e == api.ErrLarge) {
				t.Errorf("%s of %q: %d", name, g, r.e)
			}
		}
	}
}
