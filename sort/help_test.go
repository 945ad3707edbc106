package sort_test

import (
	"math"
	"slices"

	"stadda/chance"
)

// extremes are numbers outside of the ranges of wires and of numbers of wires.
var extremes = []int{math.MinInt, math.MinInt + 1, math.MinInt / 2, math.MinInt32, -64, -11, -10, -2, -1, 11, 12, 63, 64, 65, 128, 1 << 31, 1 << 32, 1<<32 + 1, 1 << 62, math.MaxInt - 1, math.MaxInt}

// extremeValues are values of wires or elements of rows.
var extremeValues = []int64{math.MinInt64, math.MinInt64 + 1, math.MinInt32, -1, 0, 1, math.MaxInt32, 1 << 32, math.MaxInt64 - 1, math.MaxInt64}

// come is what comes out of a loose network by the definition.
func come(l [][2]int, values []int64) []int64 {
	out := slices.Clone(values)
	for _, c := range l {
		a, b := out[c[0]], out[c[1]]
		out[c[0]], out[c[1]] = min(a, b), max(a, b)
	}
	return out
}

// digits are the values of the wires in a pattern.
func digits(n, pattern int) []int64 {
	values := make([]int64, n)
	for i := range values {
		values[i] = int64(pattern % 2)
		pattern /= 2
	}
	return values
}

// patternOf is the pattern with these values.
func patternOf(values []int64) int {
	pattern := 0
	for i := len(values) - 1; i >= 0; i-- {
		pattern = 2*pattern + int(values[i])
	}
	return pattern
}

// words are all lists of n values below count.
func words(n, count int) [][]int64 {
	list := [][]int64{{}}
	for range n {
		var longer [][]int64
		for _, w := range list {
			for v := range count {
				longer = append(longer, append(slices.Clone(w), int64(v)))
			}
		}
		list = longer
	}
	return list
}

// permutations are all orders of the values from 1 to n.
func permutations(n int) [][]int64 {
	list := [][]int64{{}}
	for v := 1; v <= n; v++ {
		var longer [][]int64
		for _, p := range list {
			for at := range v {
				longer = append(longer, slices.Insert(slices.Clone(p), at, int64(v)))
			}
		}
		list = longer
	}
	return list
}

// pairs are all comparators of n wires that fit.
func pairs(n int, fits func(i, j int) bool) [][2]int {
	var list [][2]int
	for i := range n {
		for j := range n {
			if i != j && fits(i, j) {
				list = append(list, [2]int{i, j})
			}
		}
	}
	return list
}

// Which comparators fit: those of networks, of plain ones, of loose ones.
func isRising(i, j int) bool { return i < j }
func isPlain(i, j int) bool  { return j == i+1 }
func isLoose(i, j int) bool  { return true }

// lists are all lists of so many of these comparators.
func lists(all [][2]int, length int) [][][2]int {
	list := [][][2]int{{}}
	for range length {
		var longer [][][2]int
		for _, l := range list {
			for _, c := range all {
				longer = append(longer, append(slices.Clone(l), c))
			}
		}
		list = longer
	}
	return list
}

// network is one of n wires.
type network struct {
	n int
	l [][2]int
}

// small are all lists of up to three comparators of up to four wires, and longer ones of fewer wires.
func small(fits func(i, j int) bool) []network {
	var list []network
	for n := 1; n <= 4; n++ {
		for length := range []int{1, 6, 5, 4}[n-1] {
			for _, l := range lists(pairs(n, fits), length) {
				list = append(list, network{n, l})
			}
		}
	}
	return list
}

// someOf is a list of so many comparators of n wires that fit.
func someOf(s *chance.Source, n, length int, fits func(i, j int) bool) [][2]int {
	var list [][2]int
	for all := pairs(n, fits); len(all) > 0 && len(list) < length; {
		list = append(list, all[s.Below(len(all))])
	}
	return list
}

// some are lists of comparators of all numbers of wires, short and long ones.
func some(s chance.Source, count int, fits func(i, j int) bool) []network {
	var list []network
	for range count {
		for n := 1; n <= 10; n++ {
			list = append(list, network{n, someOf(&s, n, s.Below(3*n*n/4+2), fits)})
		}
	}
	for n := 1; n <= 10; n++ {
		list = append(list, network{n, someOf(&s, n, 200, fits)})
	}
	return list
}

// bubble takes the greatest value up to the last wire, then the next one to the wire before, and so on.
func bubble(n int) [][2]int {
	var list [][2]int
	for last := n - 1; last > 0; last-- {
		for i := range last {
			list = append(list, [2]int{i, i + 1})
		}
	}
	return list
}

// bricks are n rows of comparators of neighbours, in turn from the first wire and from the second one on.
func bricks(n int) [][2]int {
	var list [][2]int
	for row := range n {
		for i := row % 2; i+1 < n; i += 2 {
			list = append(list, [2]int{i, i + 1})
		}
	}
	return list
}

// shortest are networks that sort with as few comparators as can be.
func shortest() []network {
	return []network{
		{1, nil},
		{2, [][2]int{{0, 1}}},
		{3, [][2]int{{0, 2}, {0, 1}, {1, 2}}},
		{4, [][2]int{{0, 2}, {1, 3}, {0, 1}, {2, 3}, {1, 2}}},
		{5, [][2]int{{0, 3}, {1, 4}, {0, 2}, {1, 3}, {0, 1}, {2, 4}, {1, 2}, {3, 4}, {2, 3}}},
		{6, [][2]int{{0, 5}, {1, 3}, {2, 4}, {1, 2}, {3, 4}, {0, 3}, {2, 5}, {0, 1}, {2, 3}, {4, 5}, {1, 2}, {3, 4}}},
		{7, [][2]int{{0, 6}, {2, 3}, {4, 5}, {0, 2}, {1, 4}, {3, 6}, {0, 1}, {2, 5}, {3, 4}, {1, 2}, {4, 6}, {2, 3}, {4, 5}, {1, 2}, {3, 4}, {5, 6}}},
		{8, [][2]int{{0, 2}, {1, 3}, {4, 6}, {5, 7}, {0, 4}, {1, 5}, {2, 6}, {3, 7}, {0, 1}, {2, 3}, {4, 5}, {6, 7}, {2, 4}, {3, 5}, {1, 4}, {3, 6}, {1, 2}, {3, 4}, {5, 6}}},
		{10, [][2]int{{0, 8}, {1, 9}, {2, 7}, {3, 5}, {4, 6}, {0, 2}, {1, 4}, {5, 8}, {7, 9}, {0, 3}, {2, 4}, {5, 7}, {6, 9}, {0, 1}, {3, 6}, {8, 9}, {1, 5}, {2, 3}, {4, 8}, {6, 7}, {1, 2}, {3, 5}, {4, 6}, {7, 8}, {2, 3}, {4, 5}, {6, 7}, {3, 4}, {5, 6}}},
	}
}

// sorters are networks that sort.
func sorters() []network {
	list := shortest()
	for n := 1; n <= 10; n++ {
		list = append(list, network{n, bubble(n)}, network{n, bricks(n)}, network{n, exchange(n)})
	}
	return list
}

// without is the network without the comparator at i.
func without(x network, i int) network {
	return network{x.n, slices.Delete(slices.Clone(x.l), i, i+1)}
}

// almost are the networks that sort, and each of them without one of its comparators.
func almost() []network {
	list := sorters()
	for _, x := range sorters() {
		for i := range x.l {
			list = append(list, without(x, i))
		}
	}
	return list
}

// networks are all small ones, such as sort, such as almost do, and others.
func networks(s chance.Source, count int) []network {
	return slices.Concat(small(isRising), almost(), some(s, count, isRising), some(s+1, count/2, isPlain))
}

// exchange is the merge exchange by its definition, step by step.
func exchange(n int) [][2]int {
	t := 0
	for 1<<t < n {
		t++
	}
	var list [][2]int
	for k := t - 1; k >= 0; k-- {
		p, q, r, d := 1<<k, 1<<(t-1), 0, 1<<k
		for {
			for i := 0; i <= n-d-1; i++ {
				if i&p == r {
					list = append(list, [2]int{i, i + d})
				}
			}
			if q == p {
				break
			}
			d = q - p
			q = q / 2
			r = p
		}
	}
	return list
}

// someRow is a row of so many elements, which are often the same if the range is small.
func someRow(s *chance.Source, length, from, to int) []int64 {
	row := make([]int64, length)
	for i := range row {
		row[i] = int64(s.From(from, to))
	}
	return row
}

// rows are all rows of up to five elements below four, and of few other kinds, and others of up to 200.
func rows(s chance.Source, count int) [][]int64 {
	var list [][]int64
	for n := range 6 {
		list = append(list, words(n, min(4, n+1))...)
	}
	list = append(list, permutations(5)...)
	for range count {
		list = append(list, someRow(&s, s.Below(20), 0, s.Below(30)), someRow(&s, s.Below(201), -1000, 1000), someRow(&s, s.Below(201), 0, 3))
	}
	for _, n := range []int{1, 2, 10, 199, 200} {
		up := make([]int64, n)
		wild := make([]int64, n)
		for i := range up {
			up[i] = int64(i)
			wild[i] = extremeValues[s.Below(len(extremeValues))]
		}
		down := slices.Clone(up)
		slices.Reverse(down)
		list = append(list, up, down, wild, make([]int64, n), someRow(&s, n, -9, 9))
	}
	return list
}

// gaps are those by which a row of so many elements is sorted: all small ones, such as are about as long as the row, and great ones.
func gapsOf(length int) []int {
	list := []int{1, 2, 3, 4, 5, 7, 8, 13, 40, 99, 100, 101, length / 2, length/2 + 1, length - 1, length, length + 1, 200, 201, 1000, math.MaxInt32, 1 << 32, 1 << 62, math.MaxInt - 200, math.MaxInt - 1, math.MaxInt}
	list = slices.DeleteFunc(list, func(h int) bool { return h < 1 })
	slices.Sort(list)
	return slices.Compact(list)
}
