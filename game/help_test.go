package game_test

import (
	"slices"
	"strings"
	"testing"

	"stadda/api"
	"stadda/chance"
	"stadda/game"
	"stadda/num"
)

const (
	zero = "{|}"
	one  = "{{|}|}"
	star = "{{|}|{|}}"
	up   = "{{|}|{{|}|{|}}}"
	down = "{{{|}|{|}}|{|}}"
)

// The players, as the tests name them.
const (
	left  = 0
	right = 1
)

// of is the text of the game with the options.
func of(lefts, rights []string) string {
	return "{" + strings.Join(lefts, ",") + "|" + strings.Join(rights, ",") + "}"
}

// between is the game with one option for each player.
func between(l, r string) string {
	return of([]string{l}, []string{r})
}

// split are the options of a player in g, as they are written.
func split(g string, player int) []string {
	var sides [2][]string
	side, depth, from := 0, 0, 0
	for i := 1; i < len(g)-1; i++ {
		switch {
		case g[i] == '{':
			if depth == 0 {
				from = i
			}
			depth++
		case g[i] == '}':
			depth--
			if depth == 0 {
				sides[side] = append(sides[side], g[from:i+1])
			}
		case g[i] == '|' && depth == 0:
			side = 1
		}
	}
	return sides[player]
}

// isGame reads g by the grammar, with at most so many games one within the other; it returns what is left after the game.
func isGame(g string, most int) (string, bool) {
	if most == 0 || !strings.HasPrefix(g, "{") {
		return "", false
	}
	rest := g[1:]
	for _, end := range []string{"|", "}"} {
		for i := 0; !strings.HasPrefix(rest, end); i++ {
			if i > 0 {
				if !strings.HasPrefix(rest, ",") {
					return "", false
				}
				rest = rest[1:]
			}
			var ok bool
			if rest, ok = isGame(rest, most-1); !ok {
				return "", false
			}
		}
		rest = rest[1:]
	}
	return rest, true
}

// plainOf is the plain text of g.
func plainOf(g string) string {
	var sides [2][]string
	for player := range sides {
		for _, x := range split(g, player) {
			sides[player] = append(sides[player], plainOf(x))
		}
		slices.Sort(sides[player])
		sides[player] = slices.Compact(sides[player])
	}
	return of(sides[left], sides[right])
}

// negativeOf is the negative of g.
func negativeOf(g string) string {
	var sides [2][]string
	for player := range sides {
		for _, x := range split(g, player) {
			sides[1-player] = append(sides[1-player], negativeOf(x))
		}
	}
	return of(sides[left], sides[right])
}

// sumOf is the sum of g and h, by the definition.
func sumOf(g, h string) string {
	var sides [2][]string
	for player := range sides {
		for _, x := range split(g, player) {
			sides[player] = append(sides[player], sumOf(x, h))
		}
		for _, x := range split(h, player) {
			sides[player] = append(sides[player], sumOf(g, x))
		}
	}
	return of(sides[left], sides[right])
}

// nesting is how many games are one within the other in g.
func nesting(g string) int {
	deepest, depth := 0, 0
	for _, c := range g {
		switch c {
		case '{':
			depth++
		case '}':
			depth--
		}
		deepest = max(deepest, depth)
	}
	return deepest
}

// play plays sums of games by all moves, and keeps what it found.
type play map[string]bool

// wins tells whether the player, moving first in the sum of the games, wins.
func (p play) wins(player int, games ...string) bool {
	games = slices.DeleteFunc(slices.Clone(games), func(g string) bool { return g == zero })
	slices.Sort(games)
	key := string(rune('0'+player)) + strings.Join(games, " ")
	is, known := p[key]
	if known {
		return is
	}
	for i, g := range games {
		for _, x := range split(g, player) {
			next := slices.Clone(games)
			next[i] = x
			if !p.wins(1-player, next...) {
				is = true
			}
		}
	}
	p[key] = is
	return is
}

// atLeast tells whether g is at least h: Left, moving second, wins the difference.
func (p play) atLeast(g, h string) bool {
	return !p.wins(right, plainOf(g), plainOf(negativeOf(h)))
}

func (p play) equal(g, h string) bool {
	return p.atLeast(g, h) && p.atLeast(h, g)
}

// outcome is the outcome of g.
func (p play) outcome(g string) string {
	switch first, second := p.wins(left, g), p.wins(right, g); {
	case first && second:
		return "N"
	case first:
		return "L"
	case second:
		return "R"
	}
	return "P"
}

// isCanonical is the definition.
func (p play) isCanonical(g string) bool {
	if plainOf(g) != g {
		return false
	}
	for _, x := range split(g, left) {
		for _, y := range split(g, left) {
			if x != y && p.atLeast(y, x) {
				return false
			}
		}
		for _, y := range split(x, right) {
			if p.atLeast(g, y) {
				return false
			}
		}
	}
	for _, x := range split(g, right) {
		for _, y := range split(g, right) {
			if x != y && p.atLeast(x, y) {
				return false
			}
		}
		for _, y := range split(x, left) {
			if p.atLeast(y, g) {
				return false
			}
		}
	}
	for _, x := range append(split(g, left), split(g, right)...) {
		if !p.isCanonical(x) {
			return false
		}
	}
	return true
}

// number is the number game of m / 2^k.
func number(m, k int) string {
	for ; k > 0 && m%2 == 0; k-- {
		m /= 2
	}
	switch {
	case k > 0:
		return between(number(m-1, k), number(m+1, k))
	case m > 0:
		return of([]string{number(m-1, 0)}, nil)
	case m < 0:
		return of(nil, []string{number(m+1, 0)})
	}
	return zero
}

// integer is the number game of n.
func integer(n int) string {
	return number(n, 0)
}

// nim is the star of n.
func nim(n int) string {
	var stars []string
	for i := range n {
		stars = append(stars, nim(i))
	}
	return plainOf(of(stars, stars))
}

// fraction is m / 2^k.
func fraction(m, k int) num.Rat {
	r, _ := num.Make(int64(m), 1<<k)
	return r
}

// source is a row of numbers that are the same in each run.
type source struct {
	chance.Source
}

// game is some game, with at most so many within each other.
func (s *source) game(most int) string {
	var sides [2][]string
	if most > 1 && s.Below(8) > 0 {
		for player := range sides {
			for range s.Below(4) {
				sides[player] = append(sides[player], s.game(most-1-s.Below(2)))
			}
		}
	}
	return of(sides[left], sides[right])
}

// small is some game of at most so many bytes.
func (s *source) small(most, bytes int) string {
	for {
		if g := s.game(most); len(g) <= bytes {
			return g
		}
	}
}

// pick is some element.
func (s *source) pick(l []string) string {
	return l[s.Below(len(l))]
}

// dayTwo are all games of which each option is one of 0, 1, -1 and star, each once.
func dayTwo() []string {
	simple := []string{star, one, of(nil, []string{zero}), zero}
	chosen := func(set int) []string {
		var l []string
		for i, x := range simple {
			if set>>i&1 == 1 {
				l = append(l, x)
			}
		}
		return l
	}
	var games []string
	for i := range 256 {
		games = append(games, plainOf(of(chosen(i%16), chosen(i/16))))
	}
	return games
}

// famous are games that are known, most of them hot or infinitely small.
func famous() []string {
	half := number(1, 1)
	games := []string{zero, one, star, up, down, half, nim(2), nim(3), integer(-3), number(-5, 3), number(13, 2)}
	games = append(games, between(zero, up), between(up, zero), between(zero, down), between(star, up), between(up, down))
	for i := range 4 {
		games = append(games, between(integer(i), integer(-i)), between(integer(i), integer(i-3)), between(number(2*i+1, 1), integer(-1)))
		games = append(games, between(zero, between(zero, integer(-i))), between(between(integer(i), zero), zero)) // tiny and its negative
		games = append(games, between(integer(4), between(integer(2), integer(-i))), between(between(number(9, 2), integer(i)), between(number(-1, 3), integer(-4))))
		games = append(games, of([]string{integer(i), between(integer(4), integer(-1))}, []string{star, between(zero, integer(-i-1))}))
	}
	return games
}

// various are games of all kinds: famous ones, some of day two, and some that look like chance. None is long.
func various(seed chance.Source, n int) []string {
	s := source{seed}
	games := famous()
	two := dayTwo()
	for range n {
		games = append(games, s.pick(two), s.small(3, 60), s.small(4, 120), s.small(5, 120))
	}
	return games
}

// canon is the canonical form of g.
func canon(t *testing.T, g string) string {
	t.Helper()
	c, e := game.Canon(g)
	if e != api.OK {
		t.Fatalf("Canon of %q: %d", g, e)
	}
	return c
}

// total is the canonical form of the sum of the games.
func total(t *testing.T, games ...string) string {
	t.Helper()
	all := zero
	for _, g := range games {
		s, e := game.Sum(all, g)
		if e != api.OK {
			t.Fatalf("Sum of %q and %q: %d", all, g, e)
		}
		all = s
	}
	return all
}

// minus is the canonical form of the negative of g.
func minus(t *testing.T, g string) string {
	t.Helper()
	n, e := game.Negative(g)
	if e != api.OK {
		t.Fatalf("Negative of %q: %d", g, e)
	}
	return n
}

// mean is the mean and the temperature of g.
func mean(t *testing.T, g string) (num.Rat, num.Rat) {
	t.Helper()
	m, h, e := game.Mean(g)
	if e != api.OK {
		t.Fatalf("Mean of %q: %d", g, e)
	}
	return m, h
}

// stops are the left and the right stop of g.
func stops(t *testing.T, g string) (num.Rat, num.Rat) {
	t.Helper()
	l, r, e := game.Stops(g)
	if e != api.OK {
		t.Fatalf("Stops of %q: %d", g, e)
	}
	return l, r
}

func plus(a, b num.Rat) num.Rat {
	sum, _ := a.Add(b)
	return sum
}
