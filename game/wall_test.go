package game_test

import (
	"slices"
	"testing"

	"stadda/api"
	"stadda/game"
	"stadda/num"
)

// P5.5: Stops, Mean.

// wantWalls checks what Stops and Mean return for g, and for its negative.
func wantWalls(t *testing.T, g string, leftStop, rightStop, middle, heat num.Rat) {
	t.Helper()
	wantStopsAndMean(t, g, leftStop, rightStop, middle, heat)
	wantStopsAndMean(t, negativeOf(g), rightStop.Neg(), leftStop.Neg(), middle.Neg(), heat)
}

func wantStopsAndMean(t *testing.T, g string, leftStop, rightStop, middle, heat num.Rat) {
	t.Helper()
	l, r, e := game.Stops(g)
	if l.String() != leftStop.String() || r.String() != rightStop.String() || e != api.OK {
		t.Errorf("Stops of %q: %s, %s, %d instead of %s, %s", g, l, r, e, leftStop, rightStop)
	}
	m, h, e := game.Mean(g)
	if m.String() != middle.String() || h.String() != heat.String() || e != api.OK {
		t.Errorf("Mean of %q: %s, %s, %d instead of %s, %s", g, m, h, e, middle, heat)
	}
}

func parsed(t *testing.T, s string) num.Rat {
	t.Helper()
	r, e := num.Parse(s)
	if e != api.OK {
		t.Fatalf("Parse of %q: %d", s, e)
	}
	return r
}

func TestKnownWalls(t *testing.T) {
	switched := func(a, b int) string { return between(integer(a), integer(b)) }
	for _, x := range []struct{ g, leftStop, rightStop, middle, heat string }{
		{zero, "0", "0", "0", "0"}, {integer(-7), "-7", "-7", "-7", "0"}, {number(5, 3), "5/8", "5/8", "5/8", "0"}, {number(-47, 4), "-47/16", "-47/16", "-47/16", "0"}, {integer(29), "29", "29", "29", "0"},
		{star, "0", "0", "0", "0"}, {up, "0", "0", "0", "0"}, {nim(5), "0", "0", "0", "0"}, {between(zero, switched(0, -3)), "0", "0", "0", "0"}, {sumOf(star, number(1, 1)), "1/2", "1/2", "1/2", "0"}, {switched(1, 1), "1", "1", "1", "0"},
		// numbers that do not look like them
		{switched(-5, 7), "0", "0", "0", "0"}, {switched(1, 5), "2", "2", "2", "0"}, {between(number(1, 2), number(7, 3)), "1/2", "1/2", "1/2", "0"}, {between(integer(2), switched(3, 2)), "3", "3", "3", "0"},
		{between(switched(5, -1), switched(1, -5)), "0", "0", "0", "0"}, {between(switched(9, 1), switched(1, -7)), "1", "1", "1", "0"},
		// switches
		{switched(1, -1), "1", "-1", "0", "1"}, {switched(1, 0), "1", "0", "1/2", "1/2"}, {between(integer(3), number(-3, 2)), "3", "-3/4", "9/8", "15/8"}, {between(number(1, 1), number(1, 2)), "1/2", "1/4", "3/8", "1/8"}, {switched(27, -27), "27", "-27", "0", "27"}, {between(integer(5), star), "5", "0", "5/2", "5/2"},
		// walls with corners
		{between(integer(3), switched(1, -2)), "3", "1", "5/4", "7/4"}, {between(integer(4), switched(2, -3)), "4", "2", "2", "2"}, {between(integer(10), switched(2, 0)), "10", "2", "11/2", "9/2"}, {between(integer(2), switched(1, -5)), "2", "1", "1", "1"}, {between(integer(6), switched(2, -2)), "6", "2", "3", "3"},
		{between(switched(5, 3), switched(-3, -5)), "3", "-3", "0", "4"}, {between(switched(9, 1), zero), "1", "0", "1", "1"}, {between(switched(9, 1), switched(-1, -9)), "1", "-1", "0", "5"},
		// several options
		{of([]string{integer(2), switched(8, 1)}, []string{integer(-1)}), "2", "-1", "1", "2"}, {of([]string{switched(8, 1), switched(20, 0), integer(2)}, []string{integer(-9)}), "2", "-9", "0", "9"}, {of([]string{switched(8, 1), switched(20, 0), integer(2)}, []string{integer(-2)}), "2", "-2", "1", "3"},
	} {
		wantWalls(t, x.g, parsed(t, x.leftStop), parsed(t, x.rightStop), parsed(t, x.middle), parsed(t, x.heat))
	}
}

const (
	unit = 128       // units of the grid in 1
	last = 16 * unit // the last t on the grid
)

// grid calculates walls by the definition, at each t of a grid, and keeps them. All that games that are not nested deeply have is on it.
type grid map[string]*gridWalls

// gridWalls are the walls of a game by t, and its temperature, in units.
type gridWalls struct {
	sides [2][]int
	heat  int
}

func level(value int) *gridWalls {
	l := slices.Repeat([]int{value}, last+1)
	return &gridWalls{sides: [2][]int{l, l}}
}

// newGrid knows the walls of numbers.
func newGrid() grid {
	w := grid{}
	for m := -9 * 16; m <= 9*16; m++ {
		w[number(m, 4)] = level(m * unit / 16)
	}
	return w
}

// of are the walls of g, a canonical game.
func (w grid) of(t *testing.T, g string) *gridWalls {
	t.Helper()
	if known := w[g]; known != nil {
		return known
	}
	var next [2][]*gridWalls
	for player := range next {
		for _, x := range split(g, player) {
			next[player] = append(next[player], w.of(t, x))
		}
		if len(next[player]) == 0 {
			t.Fatalf("%q is no number of the grid", g)
		}
	}
	walls := &gridWalls{heat: -1}
	for time := range last + 1 {
		l, r := -1<<40, 1<<40
		for _, x := range next[left] {
			l = max(l, x.sides[right][time]-time)
		}
		for _, x := range next[right] {
			r = min(r, x.sides[left][time]+time)
		}
		if walls.heat >= 0 {
			before := walls.sides[left][time-1]
			l, r = before, before
		} else if l == r {
			walls.heat = time
		} else if l < r {
			t.Fatalf("the grid is too coarse for %q", g)
		}
		walls.sides[left] = append(walls.sides[left], l)
		walls.sides[right] = append(walls.sides[right], r)
	}
	if walls.heat < 0 {
		t.Fatalf("the grid ends too soon for %q", g)
	}
	w[g] = walls
	return walls
}

func TestWallsByTheDefinition(t *testing.T) {
	w := newGrid()
	check := func(g string) {
		t.Helper()
		walls := w.of(t, canon(t, g))
		inUnits := func(n int) num.Rat {
			r, _ := num.Make(int64(n), unit)
			return r
		}
		wantWalls(t, g, inUnits(walls.sides[left][0]), inUnits(walls.sides[right][0]), inUnits(walls.sides[left][walls.heat]), inUnits(walls.heat))
	}
	for _, g := range slices.Concat(dayTwo(), various(551, 100)) {
		check(g)
	}
	s := source{552}
	hot := []string{integer(2), zero, integer(-1)}
	for i := range 2000 { // hot games of several levels
		if i%40 == 0 {
			hot = hot[:3]
		}
		var sides [2][]string
		for player := range sides {
			for range s.From(1, 3) {
				x := number(s.From(-12, 12), 1)
				if s.Below(3) > 0 {
					x = s.pick(hot)
				}
				sides[player] = append(sides[player], x)
			}
		}
		g := of(sides[left], sides[right])
		check(g)
		if c := canon(t, g); len(c) < 500 && nesting(c) < 10 {
			hot = append(hot, c)
		}
	}
	if len(w) < 1000 {
		t.Errorf("only %d games with walls", len(w))
	}
}
