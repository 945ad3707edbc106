package heap_test

import (
	"fmt"
	"math"
	"slices"
	"strings"
	"testing"

	"stadda/api"
	"stadda/chance"
	"stadda/heap"
)

// extremes are numbers outside of all ranges of this layer.
var extremes = []int{math.MinInt, math.MinInt + 1, math.MinInt / 2, math.MinInt32, -1_000_000, 1_000_000, 1 << 31, 1 << 32, 1<<32 + 1, 1 << 62, math.MaxInt - 1, math.MaxInt}

// notCodes are strings that are no codes.
var notCodes = []string{
	"", "0", "0.", ".", ".7", "7", "77", "00.7", "1.7", "4.7", "7.7", "O.7", "-0.7", "+0.7", "0,7", "07", "0..7", "0.7.", "0.7.7", "0.0.7", ".0.7",
	"0.8", "0.9", "0.78", "0.87", "0.77777778", "0./", "0.:", "0.a", "0.7a", "0.-1", "0.+1", "0.1e1", "0x7", "0.7 ", " 0.7", "0. 7", "0 .7", "0.7\n", "0.7\x00", "\x000.7",
	"0.123456701", "0.000000000", "0.777777777", "0.7777777777", "0.７", "0.٣", "0.7é", "0.\xff", "0.7\xff", "0.\xb7", "０.7", "0．7",
	strings.Repeat("0.", 5), "0." + strings.Repeat("7", 100_000), strings.Repeat("0", 100_000),
}

// codes are the codes of one and of two digits, and so many others.
func codes(seed chance.Source, more int) []string {
	var list []string
	for i := range 8 {
		list = append(list, fmt.Sprintf("0.%d", i))
		for j := range 8 {
			list = append(list, fmt.Sprintf("0.%d%d", i, j))
		}
	}
	for range more {
		code := "0."
		for range seed.From(3, 8) {
			code += fmt.Sprint(seed.Below(8))
		}
		list = append(list, code)
	}
	return list
}

// leaves are the heaps that a move may leave of a heap of n, by the chapter.
func leaves(code string, n int) [][]int {
	var list [][]int
	for i, c := range code[2:] {
		k, digit := i+1, int(c-'0')
		if digit%2 == 1 && n == k {
			list = append(list, nil)
		}
		if digit/2%2 == 1 && n > k {
			list = append(list, []int{n - k})
		}
		if digit/4 == 1 && n > k+1 {
			for part := 1; part < n-k; part++ {
				list = append(list, []int{part, n - k - part})
			}
		}
	}
	return list
}

// valuesOf are the values of the heaps of 0 to most, by the chapter.
func valuesOf(code string, most int) []int {
	var values []int
	for n := range most + 1 {
		there := map[int]bool{}
		for _, heaps := range leaves(code, n) {
			there[valueAt(values, heaps)] = true
		}
		value := 0
		for there[value] {
			value++
		}
		values = append(values, value)
	}
	return values
}

// valueAt is the value of a position.
func valueAt(values, heaps []int) int {
	value := 0
	for _, n := range heaps {
		value ^= values[n]
	}
	return value
}

// values is what Values returns.
func values(t *testing.T, code string, most int) []int {
	t.Helper()
	l, e := heap.Values(code, most)
	if e != api.OK {
		t.Fatalf("Values of %.20q to %d: %d", code, most, e)
	}
	return l
}

// after are the positions to which one move leads, by the chapter: each once, in the order of lists.
func after(code string, heaps []int) [][]int {
	var list [][]int
	for i, n := range heaps {
		for _, left := range leaves(code, n) {
			position := slices.Concat(heaps[:i], left, heaps[i+1:])
			slices.Sort(position)
			for len(position) > 0 && position[0] == 0 {
				position = position[1:]
			}
			list = append(list, position)
		}
	}
	slices.SortFunc(list, slices.Compare)
	return slices.CompactFunc(list, slices.Equal)
}

// play keeps who wins, by the code and the heaps.
type play map[string]bool

// wins tells whether who moves from the heaps wins, by playing.
func (p play) wins(code string, heaps []int) bool {
	key := fmt.Sprint(code, heaps)
	win, known := p[key]
	if !known {
		win = slices.ContainsFunc(after(code, heaps), func(next []int) bool { return !p.wins(code, next) })
		p[key] = win
	}
	return win
}
