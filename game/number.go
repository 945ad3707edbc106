package game

import (
	"stadda/api"
	"stadda/num"
)

// What Of takes: fractions from -maxValue to maxValue, with a power of 2 up to maxUnder as denominator.
const (
	maxValue = 6
	maxUnder = 16
)

// Number is the value of g and true if g is a number.
func Number(g string) (num.Rat, bool, api.Errno) {
	t, numbers, e := canonicalAll(g)
	if e != api.OK {
		return num.Rat{}, false, e
	}
	value, is := t.value(numbers[0])
	return value, is, api.OK
}

// value is the value of g, a canonical game, and true if it is a number: then it is a number game. Without options of one player, it is that of an integer.
func (t *table) value(g int) (num.Rat, bool) {
	lefts, rights := t.nodes[g].options[left], t.nodes[g].options[right]
	switch {
	case len(lefts) > 1 || len(rights) > 1:
		return num.Rat{}, false
	case len(lefts) == 0 && len(rights) == 0:
		return num.Rat{}, true
	case len(rights) == 0:
		before, is := t.value(lefts[0])
		return plus(before, num.Of(1)), is
	case len(lefts) == 0:
		after, is := t.value(rights[0])
		return minus(after, num.Of(1)), is
	}
	before, isBefore := t.value(lefts[0])
	after, isAfter := t.value(rights[0])
	if !isBefore || !isAfter || before.Cmp(after) >= 0 {
		return num.Rat{}, false
	}
	return half(plus(before, after)), true
}

// Of is the number game of r.
func Of(r num.Rat) (string, api.Errno) {
	under, ok := r.Den().Int64()
	if !ok || under > maxUnder || under&(under-1) != 0 {
		return "", api.ErrArg
	}
	if r.Cmp(num.Of(-maxValue)) < 0 || r.Cmp(num.Of(maxValue)) > 0 {
		return "", api.ErrArg
	}
	t := newTable()
	return t.text(t.numberGame(r)), api.OK
}

// numberGame is the number game of r.
func (t *table) numberGame(r num.Rat) int {
	under, _ := r.Den().Int64()
	step, _ := num.Make(1, under)
	var options choices
	if under > 1 || r.Sign() > 0 {
		options[left] = []int{t.numberGame(minus(r, step))}
	}
	if under > 1 || r.Sign() < 0 {
		options[right] = []int{t.numberGame(plus(r, step))}
	}
	return t.add(options)
}

// Star is the n of which g is a star, and true if there is one.
func Star(g string) (int, bool, api.Errno) {
	t, numbers, e := canonicalAll(g)
	if e != api.OK {
		return 0, false, e
	}
	n := len(t.nodes[numbers[0]].options[left]) // no other star has as many
	if t.star(n) != numbers[0] {
		return 0, false, api.OK
	}
	return n, true, api.OK
}

// star is the canonical star of n.
func (t *table) star(n int) int {
	var lesser []int
	for range n {
		next := t.add(choices{lesser, lesser})
		lesser = append(lesser, next)
	}
	return t.add(choices{lesser, lesser})
}

// The sums, differences and halves of the numbers in games are far from those that are not small.

func plus(a, b num.Rat) num.Rat {
	sum, _ := a.Add(b)
	return sum
}

func minus(a, b num.Rat) num.Rat {
	return plus(a, b.Neg())
}

func half(a num.Rat) num.Rat {
	quotient, _ := a.Quo(num.Of(2))
	return quotient
}

func distance(a num.Rat) num.Rat {
	if a.Sign() < 0 {
		return a.Neg()
	}
	return a
}
