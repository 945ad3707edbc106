package shat

import (
	"maps"
	"slices"

	"stadda/api"
)

// brackets are the places of those that match, as sets.
type brackets struct {
	open, closed int
}

// matched are the matched brackets of a set.
func matched(n, s int) brackets {
	var b brackets
	var open []int // places of brackets that are still open
	for i := range n {
		if s>>i&1 == 0 {
			open = append(open, i)
		} else if last := len(open) - 1; last >= 0 {
			b.open |= 1 << open[last]
			b.closed |= 1 << i
			open = open[:last]
		}
	}
	return b
}

// Chains are the symmetric chains for n.
func Chains(n int) ([][]int, api.Errno) {
	if e := Check(n, nil); e != api.OK {
		return nil, e
	}
	chains := map[brackets][]int{}
	for s := range 1 << n {
		b := matched(n, s)
		chains[b] = append(chains[b], s)
	}
	return slices.SortedFunc(maps.Values(chains), slices.Compare), api.OK
}
