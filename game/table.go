package game

import (
	"slices"
	"strconv"
	"strings"
)

// The players, who are the indexes of their options, too.
const (
	left  = 0
	right = 1
)

// playerOf is Right or Left.
func playerOf(isRight bool) int {
	if isRight {
		return right
	}
	return left
}

// opponent is the other player.
func opponent(player int) int {
	return left + right - player
}

// choices are the options of Left and those of Right, by their numbers in a table.
type choices [2][]int

// node is a game in a table.
type node struct {
	options choices // rising, each once
	bytes   int     // of the plain text, or maxBytes + 1 if there are more: sums may have texts that no memory holds
	nesting int     // how many games are one within the other
}

// table numbers games, so that those with the same plain text have the same number. An option has a lesser number than the game.
type table struct {
	nodes   []node
	numbers map[sides]int
	atMost  func(g, h int) bool
}

// sides are a node's options as strings, by which a map finds it.
type sides struct {
	left, right string
}

func newTable() *table {
	t := &table{numbers: map[sides]int{}}
	t.atMost = t.comparing()
	return t
}

// add is the number of the game with the options, which are there already.
func (t *table) add(options choices) int {
	l, r := ordered(options[left]), ordered(options[right])
	key := sides{listed(l), listed(r)}
	number, there := t.numbers[key]
	if !there {
		number = len(t.nodes)
		t.numbers[key] = number
		t.nodes = append(t.nodes, t.measured(choices{l, r}))
	}
	return number
}

// ordered are the numbers, rising, each once.
func ordered(numbers []int) []int {
	numbers = slices.Clone(numbers)
	slices.Sort(numbers)
	return slices.Compact(numbers)
}

// listed are the numbers in a string.
func listed(numbers []int) string {
	var list []byte
	for _, n := range numbers {
		list = strconv.AppendInt(list, int64(n), 10)
		list = append(list, ',')
	}
	return string(list)
}

// measured is the node with the options.
func (t *table) measured(options choices) node {
	bytes, nesting := len("{|}"), 0
	for _, list := range options {
		bytes += max(0, len(list)-1)
		for _, x := range list {
			bytes += t.nodes[x].bytes
			nesting = max(nesting, t.nodes[x].nesting)
		}
	}
	return node{options, min(bytes, maxBytes+1), nesting + 1}
}

// isLarge tells whether g is beyond what games are limited to.
func (t *table) isLarge(g int) bool {
	return t.nodes[g].bytes > maxBytes || t.nodes[g].nesting > maxNesting
}

// text is the plain text of g, which is not large.
func (t *table) text(g int) string {
	return "{" + strings.Join(t.texts(left, g), ",") + "|" + strings.Join(t.texts(right, g), ",") + "}"
}

// texts are the plain texts of a player's options in g, rising.
func (t *table) texts(player, g int) []string {
	var texts []string
	for _, x := range t.nodes[g].options[player] {
		texts = append(texts, t.text(x))
	}
	slices.Sort(texts)
	return texts
}
