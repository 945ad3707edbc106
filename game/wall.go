package game

import (
	"iter"
	"slices"

	"stadda/api"
	"stadda/num"
)

// corner is a point of a wall.
type corner struct {
	t, value num.Rat
}

// wall is a function of t >= 0 by its corners, the first one at 0, rising. From one to the next it is level, or rises or falls by as much as t rises; after the last one it is level.
type wall []corner

// walls are the left and the right wall of a game.
type walls struct {
	sides       [2]wall
	temperature num.Rat
}

// Stops are the left and the right stop of g.
func Stops(g string) (num.Rat, num.Rat, api.Errno) {
	t, numbers, e := canonicalAll(g)
	if e != api.OK {
		return num.Rat{}, num.Rat{}, e
	}
	w := t.walls(numbers[0])
	return w.sides[left].at(num.Rat{}), w.sides[right].at(num.Rat{}), api.OK
}

// Mean is the mean and the temperature of g.
func Mean(g string) (num.Rat, num.Rat, api.Errno) {
	t, numbers, e := canonicalAll(g)
	if e != api.OK {
		return num.Rat{}, num.Rat{}, e
	}
	w := t.walls(numbers[0])
	return w.sides[left].at(w.temperature), w.temperature, api.OK
}

// walls are the walls of g, a canonical game: if it is no number, both players have options.
func (t *table) walls(g int) walls {
	if value, is := t.value(g); is {
		level := wall{{value: value}}
		return walls{sides: [2]wall{level, level}}
	}
	var next [2][]wall
	for player, options := range t.nodes[g].options {
		for _, x := range options {
			next[player] = append(next[player], t.walls(x).sides[opponent(player)])
		}
	}
	l, r := joined[greatest](next[left]...), joined[least](next[right]...)
	u := meeting(l, r)
	return walls{[2]wall{l.tilted(minus, u), r.tilted(plus, u)}, u}
}

// choice is what a player prefers of two values.
type choice interface {
	of(a, b num.Rat) num.Rat
}

// greatest is the choice of Left.
type greatest struct{}

func (greatest) of(a, b num.Rat) num.Rat {
	if a.Cmp(b) > 0 {
		return a
	}
	return b
}

// least is the choice of Right.
type least struct{}

func (least) of(a, b num.Rat) num.Rat {
	if a.Cmp(b) < 0 {
		return a
	}
	return b
}

// joined is, at each t, what the choice is among the walls, of which there is at least one.
func joined[C choice](walls ...wall) wall {
	var choose C
	all := walls[0]
	for _, w := range walls[1:] {
		var both wall
		for t := range times(all, w) {
			both = both.with(corner{t, choose.of(all.at(t), w.at(t))})
		}
		all = both
	}
	return all
}

// times yields, rising, when one of two left walls, or of two right walls, has a corner, and when they cross: then one of them is level, as none rises while the other one falls.
func times(a, b wall) iter.Seq[num.Rat] {
	return func(yield func(num.Rat) bool) {
		var last, gap num.Rat
		for _, t := range cornerTimes(a, b) {
			next := minus(a.at(t), b.at(t))
			if gap.Sign()*next.Sign() < 0 && !yield(plus(last, distance(gap))) {
				return
			}
			if !yield(t) {
				return
			}
			last, gap = t, next
		}
	}
}

// cornerTimes are the times at which one of the walls has a corner, rising.
func cornerTimes(walls ...wall) []num.Rat {
	var list []num.Rat
	for _, w := range walls {
		for _, c := range w {
			list = append(list, c.t)
		}
	}
	slices.SortFunc(list, num.Rat.Cmp)
	return slices.CompactFunc(list, func(s, t num.Rat) bool { return s.Cmp(t) == 0 })
}

// meeting is the least t at which l(t) - t is r(t) + t. At 0 the first one is not less than the second one; from then on it never rises, and the second one never falls.
func meeting(l, r wall) num.Rat {
	gap := func(t num.Rat) num.Rat {
		return minus(minus(l.at(t), t), plus(r.at(t), t))
	}
	var last num.Rat
	for _, t := range cornerTimes(l, r) {
		if gap(t).Sign() <= 0 {
			break
		}
		last = t
	}
	soon := plus(last, half(gap(last))) // if both change from the last corner on, otherwise one of them does
	if gap(soon).Sign() == 0 {
		return soon
	}
	return plus(last, gap(last))
}

// tilted is the wall with the time taken from its values, or added, up to u; from there on it is level.
func (w wall) tilted(tilt func(value, t num.Rat) num.Rat, u num.Rat) wall {
	var out wall
	for _, c := range w {
		if c.t.Cmp(u) < 0 {
			out = out.with(corner{c.t, tilt(c.value, c.t)})
		}
	}
	return out.with(corner{u, tilt(w.at(u), u)})
}

// with is the wall with one more corner at its end. The one before that is left out if the wall goes straight on there.
func (w wall) with(c corner) wall {
	if n := len(w); n > 1 && direction(w[n-2], w[n-1]) == direction(w[n-1], c) {
		w = w[:n-1]
	}
	return append(w, c)
}

// at is the value at t.
func (w wall) at(t num.Rat) num.Rat {
	i := len(w) - 1
	for w[i].t.Cmp(t) > 0 {
		i--
	}
	if i == len(w)-1 {
		return w[i].value
	}
	switch passed := minus(t, w[i].t); direction(w[i], w[i+1]) {
	case 1:
		return plus(w[i].value, passed)
	case -1:
		return minus(w[i].value, passed)
	}
	return w[i].value
}

// direction is 1, 0 or -1: a wall rises, is level or falls from one corner to another one.
func direction(from, to corner) int {
	return to.value.Cmp(from.value)
}
