package game

import "stadda/api"

// readAll is a table with the games and their numbers, or what Check returns for the first one that is none.
func readAll(texts ...string) (*table, []int, api.Errno) {
	t := newTable()
	var numbers []int
	for _, text := range texts {
		if len(text) > maxBytes {
			return nil, nil, api.ErrLong
		}
		g, ok := t.read(text)
		if !ok {
			return nil, nil, api.ErrGame
		}
		numbers = append(numbers, g)
	}
	return t, numbers, api.OK
}

// opened is a game whose end is still to come.
type opened struct {
	options choices
	player  int // whose options come
}

// read is the number of the game that the text is; it is false if it is none, or too many are one within the other.
func (t *table) read(text string) (int, bool) {
	var open []opened
	g, ok := 0, false
	before := byte(',') // what may begin after a comma may begin the text
reading:
	for i := range len(text) {
		last := len(open) - 1
		switch c := text[i]; {
		case c == '{' && before != '}' && len(open) < maxNesting:
			open = append(open, opened{})
		case last < 0:
			break reading
		case c == ',' && before == '}':
		case c == '|' && before != ',' && open[last].player == left:
			open[last].player = right
		case c == '}' && before != ',' && open[last].player == right:
			g = t.add(open[last].options)
			if last == 0 {
				ok = i == len(text)-1
				break reading
			}
			open = open[:last]
			open[last-1].take(g)
		default:
			break reading
		}
		before = text[i]
	}
	if !ok {
		return 0, false
	}
	return g, true
}

// take adds an option.
func (o *opened) take(x int) {
	o.options[o.player] = append(o.options[o.player], x)
}
