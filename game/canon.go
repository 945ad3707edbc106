package game

import (
	"slices"

	"stadda/api"
)

// canonicalAll is a table with the canonical forms of the games and their numbers, or what Check returns for the first one that is none.
func canonicalAll(texts ...string) (*table, []int, api.Errno) {
	t, numbers, e := readAll(texts...)
	if e != api.OK {
		return nil, nil, e
	}
	for i, g := range numbers {
		numbers[i] = t.canonical(g)
	}
	return t, numbers, api.OK
}

// canonical is the canonical form of g.
func (t *table) canonical(g int) int {
	var forms choices
	for player, options := range t.nodes[g].options {
		for _, x := range options {
			forms[player] = append(forms[player], t.canonical(x))
		}
	}
	return t.simplest(forms)
}

// simplest is the canonical form of the game with the options, which are canonical themselves.
func (t *table) simplest(options choices) int {
	g := t.add(options)
	var needed choices
	for player := range options {
		needed[player] = t.undominated(player, t.unanswered(player, g)...)
	}
	return t.add(needed)
}

// unanswered are a player's options in g. An option in which the opponent has an answer that is at least as good for the opponent as g is replaced by the player's options after that answer: whoever moves to it gets there.
func (t *table) unanswered(player, g int) []int {
	var kept []int
	met := map[int]bool{}
	for queue := slices.Clone(t.nodes[g].options[player]); len(queue) > 0; {
		x := queue[len(queue)-1]
		queue = queue[:len(queue)-1]
		if met[x] {
			continue
		}
		met[x] = true
		answers := t.nodes[x].options[opponent(player)]
		i := slices.IndexFunc(answers, func(answer int) bool { return t.prefers(opponent(player), answer, g) })
		if i < 0 {
			kept = append(kept, x)
		} else {
			queue = append(queue, t.nodes[answers[i]].options[player]...)
		}
	}
	return kept
}

// undominated are those of a player's options that are not at most as good for the player as another one. They are canonical, so that no two of them are equal.
func (t *table) undominated(player int, options ...int) []int {
	var kept []int
	for _, x := range options {
		isBeaten := slices.ContainsFunc(options, func(y int) bool { return x != y && t.prefers(player, y, x) })
		if !isBeaten {
			kept = append(kept, x)
		}
	}
	return kept
}

// negative is the negative of g; it is canonical if g is.
func (t *table) negative(g int) int {
	var negatives choices
	for player, options := range t.nodes[g].options {
		for _, x := range options {
			negatives[opponent(player)] = append(negatives[opponent(player)], t.negative(x))
		}
	}
	return t.add(negatives)
}

// adding is the function that returns the canonical form of the sum of two canonical games. It keeps what it found, as many ways lead to the same pair of parts.
func (t *table) adding() func(g, h int) int {
	known := map[pair]int{}
	var sum func(g, h int) int
	sum = func(g, h int) int {
		s, found := known[pair{g, h}]
		if found {
			return s
		}
		var sums choices
		for player := range sums {
			for _, x := range t.nodes[g].options[player] {
				sums[player] = append(sums[player], sum(x, h))
			}
			for _, x := range t.nodes[h].options[player] {
				sums[player] = append(sums[player], sum(g, x))
			}
		}
		s = t.simplest(sums)
		known[pair{g, h}] = s
		return s
	}
	return sum
}

// Canon is the canonical form of g. It is not longer than g, as options are only left out or replaced by parts of theirs.
func Canon(g string) (string, api.Errno) {
	t, numbers, e := canonicalAll(g)
	if e != api.OK {
		return "", e
	}
	return t.text(numbers[0]), api.OK
}

// Negative is the canonical form of the negative of g.
func Negative(g string) (string, api.Errno) {
	t, numbers, e := canonicalAll(g)
	if e != api.OK {
		return "", e
	}
	return t.text(t.negative(numbers[0])), api.OK
}

// Sum is the canonical form of the sum of g and h.
func Sum(g, h string) (string, api.Errno) {
	t, numbers, e := canonicalAll(g, h)
	if e != api.OK {
		return "", e
	}
	sum := t.adding()
	s := sum(numbers[0], numbers[1])
	if t.isLarge(s) {
		return "", api.ErrLarge
	}
	return t.text(s), api.OK
}

// Birthday is the birthday of g.
func Birthday(g string) (int, api.Errno) {
	t, numbers, e := canonicalAll(g)
	if e != api.OK {
		return 0, e
	}
	return t.nodes[numbers[0]].nesting - 1, api.OK
}
