package heap

import (
	"slices"

	"stadda/api"
)

// What a vertex is for who moves from it.
const (
	Lost = iota
	Won
	Drawn
)

// maxVertices is how many vertices a graph has at most.
const maxVertices = 200

// CheckGraph tells whether g is a graph.
func CheckGraph(g [][]int) api.Errno {
	if len(g) < 1 || len(g) > maxVertices {
		return api.ErrGraph
	}
	for _, list := range g {
		last := -1
		for _, to := range list {
			if to <= last || to >= len(g) {
				return api.ErrGraph
			}
			last = to
		}
	}
	return api.OK
}

// position is a vertex and whose turn it is there: of the player who has Lost, or of the one who has Won.
type position struct {
	vertex, turn int
}

// reversed are, for each vertex, those from which a move leads to it.
func reversed(g [][]int) [][]int {
	from := make([][]int, len(g))
	for v, list := range g {
		for _, to := range list {
			from[to] = append(from[to], v)
		}
	}
	return from
}

// decided are the positions of all plays that end, with their distances. They are found from the ends on, those with a lesser distance first: the last move that is left from a vertex leads to where its loser holds out longest.
func decided(g [][]int) map[position]int {
	from := reversed(g)
	left := make([]int, len(g)) // moves that are not known to let the other one win
	distances := map[position]int{}
	var queue []position
	for v, list := range g {
		left[v] = len(list)
		if left[v] == 0 {
			distances[position{v, Lost}] = 0
			queue = append(queue, position{v, Lost})
		}
	}
	for len(queue) > 0 {
		next := queue[0]
		queue = queue[1:]
		for _, v := range from[next.vertex] {
			here := position{v, Won}
			if next.turn == Won {
				left[v]--
				if left[v] > 0 {
					continue
				}
				here.turn = Lost
			}
			if _, isKnown := distances[here]; !isKnown {
				distances[here] = distances[next] + 1
				queue = append(queue, here)
			}
		}
	}
	return distances
}

// Outcomes are what each vertex of g is, and its distance.
func Outcomes(g [][]int) ([]int, []int, api.Errno) {
	if e := CheckGraph(g); e != api.OK {
		return nil, nil, e
	}
	kinds, distances := make([]int, len(g)), make([]int, len(g))
	for v := range kinds {
		kinds[v] = Drawn
	}
	for p, distance := range decided(g) {
		kinds[p.vertex], distances[p.vertex] = p.turn, distance
	}
	return kinds, distances, api.OK
}

// Best is the first vertex to which a move from v leads that is as good as can be.
func Best(g [][]int, v int) (int, api.Errno) {
	kinds, distances, e := Outcomes(g)
	if e != api.OK {
		return 0, e
	}
	if v < 0 || v >= len(g) {
		return 0, api.ErrArg
	}
	if len(g[v]) == 0 {
		return 0, api.ErrNone
	}
	kind := [...]int{Lost: Won, Won: Lost, Drawn: Drawn}[kinds[v]]
	distance := max(0, distances[v]-1) // what is left after the best move is one less; where nothing ends, all are 0
	i := slices.IndexFunc(g[v], func(to int) bool { return kinds[to] == kind && distances[to] == distance })
	return g[v][i], api.OK
}
