package heap_test

import (
	"slices"
	"testing"

	"stadda/api"
	"stadda/chance"
	"stadda/heap"
)

// P6.5: CheckGraph, Outcomes, Best.

// notGraphs are data that are no graph.
func notGraphs() [][][]int {
	list := [][][]int{
		nil, {}, {{1}}, {{0, 0}}, {{-1}}, {{-1, 0}}, {{1, 0}, {}}, {{}, {2}}, {{}, {0, 2}}, {{0, 1, 1}, {}}, {{0, 1}, {1, 0}}, {{0}, {1}, {2, 1}}, {{}, {}, {0, 1, 3}}, {{1}, nil, {0, 0}},
		make([][]int, 201), make([][]int, 1000), append(make([][]int, 199), []int{200}), append(make([][]int, 200), []int{0}),
	}
	for _, n := range extremes {
		list = append(list, [][]int{{n}, {}}, [][]int{{}, {n}}, [][]int{{}, {0, n}}, [][]int{{n, 1}, {}})
	}
	return list
}

// line is the graph in which moves lead from each vertex to the one before it.
func line(n int) [][]int {
	g := make([][]int, n)
	for v := 1; v < n; v++ {
		g[v] = []int{v - 1}
	}
	return g
}

// full is the graph in which moves lead from each vertex to all from 0 to last.
func full(n, last int) [][]int {
	g := make([][]int, n)
	for v := range g {
		for to := range last + 1 {
			g[v] = append(g[v], to)
		}
	}
	return g
}

// someGraph is a graph of n vertices, in which there is one of so many moves.
func someGraph(s *chance.Source, n, every int) [][]int {
	g := make([][]int, n)
	for v := range g {
		for to := range n {
			if s.Below(every) == 0 {
				g[v] = append(g[v], to)
			}
		}
	}
	return g
}

// graphs are all graphs of up to three vertices, and others.
func graphs(seed chance.Source) [][][]int {
	var list [][][]int
	for n := 1; n <= 3; n++ {
		for bits := range 1 << (n * n) {
			g := make([][]int, n)
			for i := range n * n {
				if bits>>i&1 == 1 {
					g[i/n] = append(g[i/n], i%n)
				}
			}
			list = append(list, g)
		}
	}
	for range 3000 {
		n := seed.From(4, 14)
		list = append(list, someGraph(&seed, n, seed.From(2, n+1)))
	}
	for range 20 {
		list = append(list, someGraph(&seed, seed.From(100, 200), seed.From(30, 200)))
	}
	return append(list, line(200), line(199), full(200, 199), append(full(199, 197), nil), full(200, 198), append(make([][]int, 199), []int{0, 198}), make([][]int, 200))
}

// outcomesOf are the outcomes by the definition, and the distances: who moves at v wins, or loses, within so many moves, whatever the other one does.
func outcomesOf(g [][]int) ([]int, []int) {
	kinds, distances := make([]int, len(g)), make([]int, len(g))
	for v := range kinds {
		kinds[v] = heap.Drawn
	}
	for moves := range len(g) + 1 {
		before := slices.Clone(kinds)
		for v, list := range g {
			switch {
			case before[v] != heap.Drawn:
			case slices.ContainsFunc(list, func(to int) bool { return before[to] == heap.Lost }):
				kinds[v], distances[v] = heap.Won, moves
			case !slices.ContainsFunc(list, func(to int) bool { return before[to] != heap.Won }):
				kinds[v], distances[v] = heap.Lost, moves
			}
		}
	}
	return kinds, distances
}

// bestOf is the least vertex to which a move from v leads that is as good as can be, by the definition.
func bestOf(g [][]int, kinds, distances []int, v int) int {
	best := -1
	for _, to := range g[v] {
		switch kinds[v] {
		case heap.Won:
			if kinds[to] == heap.Lost && (best < 0 || distances[to] < distances[best]) {
				best = to
			}
		case heap.Drawn:
			if kinds[to] == heap.Drawn && best < 0 {
				best = to
			}
		case heap.Lost:
			if best < 0 || distances[to] > distances[best] {
				best = to
			}
		}
	}
	return best
}

func TestKinds(t *testing.T) {
	if heap.Lost != 0 || heap.Won != 1 || heap.Drawn != 2 {
		t.Errorf("Lost, Won, Drawn: %d, %d, %d", heap.Lost, heap.Won, heap.Drawn)
	}
}

func TestCheckGraph(t *testing.T) {
	for _, g := range graphs(651) {
		if e := heap.CheckGraph(g); e != api.OK {
			t.Errorf("CheckGraph of %v: %d", g, e)
		}
	}
	var lists [][]int // all lists of up to three of the numbers -1 to 2
	for i := -1; i <= 2; i++ {
		lists = append(lists, []int{i})
		for j := -1; j <= 2; j++ {
			lists = append(lists, []int{i, j})
			for k := -1; k <= 2; k++ {
				lists = append(lists, []int{i, j, k})
			}
		}
	}
	for _, l := range lists {
		want := api.ErrGraph
		if slices.ContainsFunc([][]int{{0}, {1}, {0, 1}}, func(m []int) bool { return slices.Equal(l, m) }) {
			want = api.OK
		}
		for _, g := range [][][]int{{l, nil}, {{}, l}, {l, {0, 1}}} {
			if e := heap.CheckGraph(g); e != want {
				t.Errorf("CheckGraph of %v: %d instead of %d", g, e, want)
			}
		}
	}
}

// What is no graph comes before all other errors.
func TestNoGraphs(t *testing.T) {
	for _, g := range notGraphs() {
		if e := heap.CheckGraph(g); e != api.ErrGraph {
			t.Errorf("CheckGraph of %v: %d", g, e)
		}
		if kinds, distances, e := heap.Outcomes(g); len(kinds) > 0 || len(distances) > 0 || e != api.ErrGraph {
			t.Errorf("Outcomes of %v: %v, %v, %d", g, kinds, distances, e)
		}
		for _, v := range []int{-1, 0, 1, len(g)} {
			if to, e := heap.Best(g, v); to != 0 || e != api.ErrGraph {
				t.Errorf("Best of %v at %d: %d, %d", g, v, to, e)
			}
		}
	}
}

// wantOutcomes checks what Outcomes and Best return.
func wantOutcomes(t *testing.T, g [][]int, kinds, distances []int) {
	t.Helper()
	if k, d, e := heap.Outcomes(g); !slices.Equal(k, kinds) || !slices.Equal(d, distances) || e != api.OK {
		t.Errorf("Outcomes of %v: %v, %v, %d instead of %v, %v", g, k, d, e, kinds, distances)
	}
	for v, list := range g {
		to, e := heap.Best(g, v)
		if len(list) == 0 {
			if to != 0 || e != api.ErrNone {
				t.Errorf("Best of %v at %d: %d, %d", g, v, to, e)
			}
		} else if want := bestOf(g, kinds, distances, v); to != want || e != api.OK {
			t.Errorf("Best of %v at %d: %d, %d instead of %d", g, v, to, e, want)
		}
	}
}

func TestKnownOutcomes(t *testing.T) {
	const l, w, d = heap.Lost, heap.Won, heap.Drawn
	for _, x := range []struct {
		g                [][]int
		kinds, distances []int
	}{
		{[][]int{{}}, []int{l}, []int{0}}, {[][]int{{0}}, []int{d}, []int{0}}, {[][]int{{0, 1}, {}}, []int{w, l}, []int{1, 0}}, {[][]int{{1}, {0}}, []int{d, d}, []int{0, 0}},
		{[][]int{{1}, {0, 2}, {}}, []int{l, w, l}, []int{2, 1, 0}},
		{[][]int{{1}, {0, 2}, {}, {3}, {1, 3}, {2, 4}}, []int{l, w, l, d, d, w}, []int{2, 1, 0, 0, 0, 1}},
		{[][]int{{}, {0}, {1}, {2}, {0, 1, 3}, {1, 3}}, []int{l, w, l, w, w, l}, []int{0, 1, 2, 3, 1, 4}}, // the loser holds out longest
		{[][]int{{}, {0}, {1}, {2}, {3}, {2, 4}, {4}}, []int{l, w, l, w, l, w, w}, []int{0, 1, 2, 3, 4, 3, 5}},
		{[][]int{{}, {0}, {1, 2}}, []int{l, w, d}, []int{0, 1, 0}}, // a vertex that leads to itself is better than to lose
		{[][]int{{}, {0}, {1, 3}, {2, 3}}, []int{l, w, d, d}, []int{0, 1, 0, 0}},
	} {
		wantOutcomes(t, x.g, x.kinds, x.distances)
	}
	kinds, distances := make([]int, 200), make([]int, 200)
	for v := range 200 {
		kinds[v], distances[v] = v%2, v
	}
	wantOutcomes(t, line(200), kinds, distances)
}

func TestOutcomes(t *testing.T) {
	var count [3]int
	far := 0
	for _, g := range graphs(652) {
		kinds, distances := outcomesOf(g)
		wantOutcomes(t, g, kinds, distances)
		for v, k := range kinds {
			count[k]++
			far = max(far, distances[v])
		}
	}
	if slices.Min(count[:]) < 1000 || far < 199 {
		t.Errorf("outcomes %v, distances up to %d", count, far)
	}
}

// If both follow Best, the play takes as many moves as the distance says.
func TestPlays(t *testing.T) {
	for _, g := range graphs(653) {
		kinds, distances, e := heap.Outcomes(g)
		if e != api.OK {
			t.Fatalf("Outcomes of %v: %d", g, e)
		}
		best := make([]int, len(g))
		for v := range g {
			best[v], _ = heap.Best(g, v)
		}
		for first := range g {
			v, moves := first, 0
			for len(g[v]) > 0 && moves < 250 {
				v = best[v]
				moves++
			}
			drawn := kinds[first] == heap.Drawn
			if drawn != (moves == 250) || !drawn && (moves != distances[first] || moves%2 != kinds[first]) {
				t.Errorf("%v from %d: kind %d, distance %d, %d moves", g, first, kinds[first], distances[first], moves)
			}
		}
	}
}

func TestNoVertices(t *testing.T) {
	for _, g := range [][][]int{{{}}, {{0}}, line(5), line(200)} {
		for _, v := range append([]int{-1, -2, len(g), len(g) + 1, 201}, extremes...) {
			if to, e := heap.Best(g, v); to != 0 || e != api.ErrArg {
				t.Errorf("Best of %v at %d: %d, %d", g, v, to, e)
			}
		}
	}
}

// R4: arguments are not changed, results are new.
func TestOutcomesAreNew(t *testing.T) {
	s := chance.Source(654)
	for range 50 {
		g := someGraph(&s, 12, 5)
		var before [][]int
		for _, list := range g {
			before = append(before, slices.Clone(list))
		}
		kinds, distances := outcomesOf(g)
		wantOutcomes(t, g, kinds, distances)
		k, d, _ := heap.Outcomes(g)
		clear(k)
		if !slices.Equal(d, distances) {
			t.Errorf("Outcomes of %v share memory", g)
		}
		clear(d)
		wantOutcomes(t, g, kinds, distances)
		if !equal(g, before) {
			t.Errorf("Outcomes changed %v to %v", before, g)
		}
	}
}
