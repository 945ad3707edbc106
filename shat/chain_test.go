package shat_test

import (
	"fmt"
	"slices"
	"strings"
	"testing"

	"stadda/api"
	"stadda/shat"
)

// P8.6: Chains.

// matchedOf is a set as signs, with a dot in place of each that has no match: what is between brackets that match has been matched before.
func matchedOf(n, s int) string {
	signs := make([]byte, n)
	for i := range signs {
		signs[i] = '('
		if s>>i&1 == 1 {
			signs[i] = ')'
		}
	}
	match := []byte(strings.Repeat(".", n))
	for width := 2; width <= n; width += 2 {
		for i := 0; i+width <= n; i++ {
			k := i + width - 1
			if signs[i] == '(' && signs[k] == ')' && match[i] == '.' && match[k] == '.' && !slices.Contains(match[i+1:k], '.') {
				match[i], match[k] = '(', ')'
			}
		}
	}
	return string(match)
}

// chainsOf are the chains by the definition.
func chainsOf(n int) [][]int {
	var list [][]int
	at := map[string]int{}
	for s := range 1 << n {
		m := matchedOf(n, s)
		if _, ok := at[m]; !ok {
			at[m] = len(list)
			list = append(list, nil)
		}
		list[at[m]] = append(list[at[m]], s)
	}
	return list
}

// chainsByOneMore are the chains for n by those for n - 1: de Bruijn, Tengbergen and Kruyswijk make two of each, one longer and one shorter than it.
func chainsByOneMore(n int) [][]int {
	if n == 0 {
		return [][]int{{0}}
	}
	var list [][]int
	bit := 1 << (n - 1)
	for _, c := range chainsByOneMore(n - 1) {
		last := len(c) - 1
		list = append(list, append(slices.Clone(c), c[last]|bit))
		if last > 0 {
			var shorter []int
			for _, s := range c[:last] {
				shorter = append(shorter, s|bit)
			}
			list = append(list, shorter)
		}
	}
	slices.SortFunc(list, slices.Compare)
	return list
}

func TestChains(t *testing.T) {
	for n := range 11 {
		l, e := shat.Chains(n)
		if fmt.Sprint(l) != fmt.Sprint(chainsOf(n)) || fmt.Sprint(l) != fmt.Sprint(chainsByOneMore(n)) || e != api.OK {
			t.Errorf("Chains(%d): %v, %d instead of %v and %v", n, l, e, chainsOf(n), chainsByOneMore(n))
		}
	}
}

func TestKnownChains(t *testing.T) {
	for n, want := range []string{"[[0]]", "[[0 1]]", "[[0 1 3] [2]]", "[[0 1 3 7] [2 6] [4 5]]", "[[0 1 3 7 15] [2 6 14] [4 5 13] [8 9 11] [10] [12]]"} {
		if l, e := shat.Chains(n); fmt.Sprint(l) != want || e != api.OK {
			t.Errorf("Chains(%d): %v, %d", n, l, e)
		}
	}
}

func TestNoChains(t *testing.T) {
	for _, n := range append([]int{-1, -2, -10, 11, 12, 63, 64}, extremes...) {
		if l, e := shat.Chains(n); len(l) > 0 || e != api.ErrArg {
			t.Errorf("Chains(%d): %v, %d", n, l, e)
		}
	}
}

func TestChainsAreNew(t *testing.T) {
	for n := range 9 {
		l, _ := shat.Chains(n)
		want := fmt.Sprint(l)
		for i, c := range l {
			for k := range c[:cap(c)] {
				c[:cap(c)][k] = -1 - i
			}
		}
		for i, c := range l {
			for _, s := range c {
				if s != -1-i {
					t.Fatalf("Chains(%d): two chains share memory", n)
				}
			}
		}
		if again, _ := shat.Chains(n); fmt.Sprint(again) != want {
			t.Errorf("Chains(%d): %v, then %v", n, want, again)
		}
	}
}
