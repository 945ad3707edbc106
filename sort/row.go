package sort

import (
	"cmp"
	"slices"

	"stadda/api"
)

const (
	maxRow    = 200
	maxGaps   = 20
	maxNumber = 1000
)

// checkRow tells what is wrong with a row or with gaps.
func checkRow(row []int64, gaps ...int) api.Errno {
	if len(row) > maxRow || len(gaps) > maxGaps {
		return api.ErrLong
	}
	for _, h := range gaps {
		if h < 1 {
			return api.ErrArg
		}
	}
	return api.OK
}

// Sorted tells whether a row is sorted by h; if not, it is the first position whose element is greater than the one h positions after it.
func Sorted(row []int64, h int) (int, bool, api.Errno) {
	if e := checkRow(row, h); e != api.OK {
		return 0, false, e
	}
	for i := range len(row) - h { // i + h could be too large for an int, were it not a position
		if row[i] > row[i+h] {
			return i, false, api.OK
		}
	}
	return 0, true, api.OK
}

// Comb is the row combed with the gap h, and how many exchanges there were.
func Comb(row []int64, h int) ([]int64, int, api.Errno) {
	if e := checkRow(row, h); e != api.OK {
		return nil, 0, e
	}
	out, exchanges := slices.Clone(row), 0
	for i := range len(out) - h {
		if settle(out, i, i+h) {
			exchanges++
		}
	}
	return out, exchanges, api.OK
}

// insertion takes each of the elements at first, first + h, .. down to its place among those before it, and counts the exchanges. Each of them puts one pair in order and leaves all others as they are, so that they are as many as there were pairs out of order.
func insertion[E cmp.Ordered](row []E, first, h int) int {
	exchanges := 0
	for next := first + h; next < len(row); next += h {
		for at := next; at > first && settle(row, at-h, at); at -= h {
			exchanges++
		}
	}
	return exchanges
}

// inTurn is the row sorted by one gap after the other, and how many pairs were out of order each time, in all.
func inTurn(row []int64, gaps ...int) ([]int64, int, api.Errno) {
	if e := checkRow(row, gaps...); e != api.OK {
		return nil, 0, e
	}
	out, pairs := slices.Clone(row), 0
	for _, h := range gaps {
		for first := range min(h, len(out)-h) { // the classes of more than one element
			pairs += insertion(out, first, h)
		}
	}
	return out, pairs, api.OK
}

// SortBy is the row sorted by h, and how many pairs were out of order.
func SortBy(row []int64, h int) ([]int64, int, api.Errno) {
	return inTurn(row, h)
}

// Shell is the row sorted by each of the gaps in turn, and how many pairs were out of order, in all.
func Shell(row []int64, gaps []int) ([]int64, int, api.Errno) {
	return inTurn(row, gaps...)
}

// Reach is the greatest integer that is no sum of some times a and some times b, by Sylvester's formula. If a or b is 1, it is -1, which is what the chapter asks for where there is none.
func Reach(a, b int) (int, api.Errno) {
	if min(a, b) < 1 || max(a, b) > maxNumber || divisor(a, b) > 1 {
		return 0, api.ErrArg
	}
	return a*b - a - b, api.OK
}

// divisor is the greatest common divisor.
func divisor(a, b int) int {
	for b > 0 {
		a, b = b, a%b
	}
	return a
}
