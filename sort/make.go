package sort

import (
	"iter"
	"math/bits"

	"stadda/api"
)

// layered yields the comparators of a network, each with the number of its layer, from 0 on.
func layered(net []comparator) iter.Seq2[int, comparator] {
	return func(yield func(int, comparator) bool) {
		var next [maxWires]int // for each wire the first layer after those of its comparators
		for _, c := range net {
			layer := max(next[c.lesser], next[c.greater])
			if !yield(layer, c) {
				return
			}
			next[c.lesser], next[c.greater] = layer+1, layer+1
		}
	}
}

// Layers are the layers of a network.
func Layers(n int, l [][2]int) ([][][2]int, api.Errno) {
	net, e := network(n, l)
	if e != api.OK {
		return nil, e
	}
	var list [][][2]int
	for layer, c := range layered(net) {
		if layer == len(list) {
			list = append(list, nil)
		}
		list[layer] = append(list[layer], c.pair())
	}
	return list, api.OK
}

// Straight are the straight network of a loose one, and the wires on which the values of its wires come out.
func Straight(n int, l [][2]int) ([][2]int, []int, api.Errno) {
	net, e := loose(n, l)
	if e != api.OK {
		return nil, nil, e
	}
	places := make([]int, n)
	for wire := range places {
		places[wire] = wire
	}
	list := make([][2]int, 0, len(net))
	for _, c := range net {
		s := comparator{places[c.lesser], places[c.greater]}.straight()
		places[c.lesser], places[c.greater] = s.lesser, s.greater
		list = append(list, s.pair())
	}
	return list, places, api.OK
}

// Merge is the merge exchange of n wires.
func Merge(n int) ([][2]int, api.Errno) {
	if n < 1 || n > maxWires {
		return nil, api.ErrArg
	}
	top := 1 << bits.Len(uint(n-1)) / 2 // 0 for a single wire, which needs no comparators
	var list [][2]int
	for p := top; p > 0; p /= 2 {
		list = append(list, across(n, p, 0, p)...)
		for q := top; q != p; q /= 2 {
			list = append(list, across(n, q-p, p, p)...)
		}
	}
	return list, api.OK
}

// across are the comparators (i, i + d) for those i whose common bits with p are r.
func across(n, d, r, p int) [][2]int {
	var list [][2]int
	for i := range n - d {
		if i&p == r {
			list = append(list, [2]int{i, i + d})
		}
	}
	return list
}
