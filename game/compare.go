package game

import (
	"slices"

	"stadda/api"
)

// pair are two games of a table.
type pair struct {
	g, h int
}

// comparing is the function that tells whether a game is at most another one: neither has Left an option of the first that is at least the second, nor Right one of the second that is at most the first. It keeps what it found.
func (t *table) comparing() func(g, h int) bool {
	known := map[pair]bool{}
	var atMost func(g, h int) bool
	atMost = func(g, h int) bool {
		is, found := known[pair{g, h}]
		if !found {
			is = !slices.ContainsFunc(t.nodes[g].options[left], func(x int) bool { return atMost(h, x) }) &&
				!slices.ContainsFunc(t.nodes[h].options[right], func(x int) bool { return atMost(x, g) })
			known[pair{g, h}] = is
		}
		return is
	}
	return atMost
}

// prefers tells whether g is at least as good as h for a player.
func (t *table) prefers(player, g, h int) bool {
	if player == left {
		return t.atMost(h, g)
	}
	return t.atMost(g, h)
}

// isWon tells whether the player, moving second in g, wins.
func (t *table) isWon(player, g int) bool {
	zero := t.add(choices{})
	return t.prefers(player, g, zero)
}

// Outcome is the outcome of g.
func Outcome(g string) (string, api.Errno) {
	t, numbers, e := readAll(g)
	if e != api.OK {
		return "", e
	}
	forLeft, forRight := t.isWon(left, numbers[0]), t.isWon(right, numbers[0])
	switch {
	case forLeft && forRight:
		return "P", api.OK
	case forLeft:
		return "L", api.OK
	case forRight:
		return "R", api.OK
	}
	return "N", api.OK
}

// AtLeast tells whether g is at least h.
func AtLeast(g, h string) (bool, api.Errno) {
	t, numbers, e := readAll(g, h)
	if e != api.OK {
		return false, e
	}
	return t.prefers(left, numbers[0], numbers[1]), api.OK
}

// Move is an option with which Left, or Right, wins, and true, or false if there is none.
func Move(g string, right bool) (string, bool, api.Errno) {
	t, numbers, e := readAll(g)
	if e != api.OK {
		return "", false, e
	}
	player := playerOf(right)
	for _, x := range t.nodes[numbers[0]].options[player] {
		if t.isWon(player, x) {
			return t.text(x), true, api.OK
		}
	}
	return "", false, api.OK
}
