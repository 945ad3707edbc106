package cube_test

import (
	"slices"
	"testing"

	"stadda/api"
	"stadda/chance"
	"stadda/cube"
)

// P7.1: Depth. P7.2: Decide, Finds.

// fixed is f at the numbers whose bit is as given, as a function of the other bits.
func fixed(f []bool, bit int, is bool) []bool {
	var g []bool
	for x, value := range f {
		if (x>>bit&1 == 1) == is {
			g = append(g, value)
		}
	}
	return g
}

// depthOf is the depth by the definition.
func depthOf(f []bool) int {
	if !slices.Contains(f, !f[0]) {
		return 0
	}
	least := len(f)
	for bit := 0; 1<<bit < len(f); bit++ {
		least = min(least, 1+max(depthOf(fixed(f, bit, false)), depthOf(fixed(f, bit, true))))
	}
	return least
}

// leaf and node are trees.
func leaf(value bool) cube.Tree {
	return cube.Tree{Value: value}
}

func node(bit int, without, with cube.Tree) cube.Tree {
	return cube.Tree{Bit: bit, Parts: []cube.Tree{without, with}}
}

// isTree tells whether t is a tree for functions of n bits by the definition.
func isTree(t cube.Tree, n int) bool {
	if len(t.Parts) == 0 {
		return t.Bit == 0
	}
	return len(t.Parts) == 2 && !t.Value && t.Bit >= 0 && t.Bit < n && isTree(t.Parts[0], n) && isTree(t.Parts[1], n)
}

// levels and nodes are how many levels of nodes, and how many nodes, a tree has.
func levels(t cube.Tree) int {
	if len(t.Parts) == 0 {
		return 0
	}
	return 1 + max(levels(t.Parts[0]), levels(t.Parts[1]))
}

func nodes(t cube.Tree) int {
	if len(t.Parts) == 0 {
		return 0
	}
	return 1 + nodes(t.Parts[0]) + nodes(t.Parts[1])
}

// valueAt is the value of the leaf of a tree at x.
func valueAt(t cube.Tree, x int) bool {
	if len(t.Parts) == 0 {
		return t.Value
	}
	return valueAt(t.Parts[x>>t.Bit&1], x)
}

// finds tells whether t is a tree that finds f by the definition.
func finds(f []bool, t cube.Tree) bool {
	return isTree(t, width(f)) && slices.Equal(f, where(width(f), func(x int) bool { return valueAt(t, x) }))
}

// wantFinds checks what Finds returns.
func wantFinds(t *testing.T, f []bool, tree cube.Tree) {
	t.Helper()
	if is := cube.Finds(f, tree); is != finds(f, tree) {
		t.Errorf("Finds of %s and %v: %t", text(f), tree, is)
	}
}

func TestDepthAndDecide(t *testing.T) {
	count := make([]int, 6)
	for _, f := range functions(741, 5, 200) {
		want := depthOf(f)
		if n := got(t, "Depth", f, cube.Depth); n != want {
			t.Errorf("Depth of %s: %d instead of %d", text(f), n, want)
		}
		tree := got(t, "Decide", f, cube.Decide)
		if !finds(f, tree) || !cube.Finds(f, tree) || levels(tree) != want {
			t.Errorf("Decide of %s: %v, the depth is %d", text(f), tree, want)
		}
		count[want]++
	}
	if slices.Min(count) < 6 {
		t.Errorf("functions by depths: %v", count)
	}
}

func TestKnownDepths(t *testing.T) {
	for _, x := range []struct {
		f     string
		depth int
	}{
		{"0", 0}, {"1", 0}, {"01", 1}, {"10", 1}, {"11", 0}, {"0011", 1}, {"0101", 1}, {"0110", 2}, {"0001", 2}, {"00010111", 3}, {"01010011", 2}, {"0000111101010101", 2}, {"0011001100110011", 1}, {"1101000110001011", 3}, {"1111111111111111", 0},
	} {
		f := table(x.f)
		tree := got(t, "Decide", f, cube.Decide)
		if n := got(t, "Depth", f, cube.Depth); n != x.depth || levels(tree) != x.depth || !finds(f, tree) {
			t.Errorf("%s: %d, %v", x.f, n, tree)
		}
	}
}

func TestTreesOfTooManyBits(t *testing.T) {
	for _, f := range slices.Concat(ordered(6), some(742, 6, 6, 20), [][]bool{make([]bool, 64), where(6, func(int) bool { return true }), make([]bool, 100)[:64]}) {
		if n, e := cube.Depth(f); n != 0 || e != api.ErrLong {
			t.Errorf("Depth of %s: %d, %d", text(f), n, e)
		}
		if tree, e := cube.Decide(f); tree.Bit != 0 || tree.Value || len(tree.Parts) > 0 || e != api.ErrLong {
			t.Errorf("Decide of %s: %v, %d", text(f), tree, e)
		}
	}
}

// aTree is a tree for functions of n bits; in one of so many places, if there are any, something is amiss.
func aTree(s *chance.Source, n, deep, amiss int) cube.Tree {
	t := leaf(s.Below(2) == 0)
	if deep > 0 && n > 0 && s.Below(8) > 0 {
		t = node(s.Below(n), aTree(s, n, deep-1, amiss), aTree(s, n, deep-1, amiss))
	}
	if amiss == 0 || s.Below(amiss) > 0 {
		return t
	}
	switch s.Below(5) {
	case 0:
		t.Bit += s.From(1, n+1)
	case 1:
		t.Bit = -1
	case 2:
		t.Value = true
	case 3:
		t.Parts = append(t.Parts, leaf(false))
	case 4:
		t.Parts = t.Parts[:min(1, len(t.Parts))]
	}
	return t
}

func TestFinds(t *testing.T) {
	s := chance.Source(743)
	count := map[bool]int{}
	for range 20_000 {
		n := s.Below(7)
		tree := aTree(&s, n, s.Below(7), s.Below(2)*s.From(5, 60))
		count[isTree(tree, n)]++
		f := someOf(&s, n, 2)
		if isTree(tree, n) {
			f = where(n, func(x int) bool { return valueAt(tree, x) })
		}
		wantFinds(t, f, tree)
		f[s.Below(len(f))] = s.Below(2) == 0
		wantFinds(t, f, tree)
		wantFinds(t, someOf(&s, s.Below(7), 3), tree)
	}
	if min(count[false], count[true]) < 2000 {
		t.Errorf("trees and no trees: %v", count)
	}
}

func TestKnownFinds(t *testing.T) {
	no, yes := leaf(false), leaf(true)
	either := node(0, no, yes)
	for _, x := range []struct {
		f    string
		tree cube.Tree
		want bool
	}{
		{"0", no, true}, {"0", yes, false}, {"1", yes, true}, {"1", no, false}, {"0", either, false}, {"0", node(0, no, no), false}, {"00", no, true}, {"00", node(0, no, no), true}, {"01", no, false},
		{"01", either, true}, {"10", either, false}, {"10", node(0, yes, no), true}, {"0101", either, true}, {"0011", either, false}, {"0011", node(1, no, yes), true}, {"01", node(1, no, yes), false}, {"01", node(-1, no, yes), false},
		{"0001", node(1, no, either), true}, {"0001", node(0, no, node(1, no, yes)), true}, {"0110", node(1, either, node(0, yes, no)), true}, {"0110", node(0, node(1, no, yes), node(1, yes, no)), true}, {"0110", node(0, node(1, yes, no), node(1, no, yes)), false},
		{"01", node(0, node(0, no, yes), yes), true},  // a leaf that no number leads to
		{"01", node(0, node(0, yes, no), yes), false}, // the other one counts
		{"01", node(0, node(0, no, node(1, no, no)), yes), false},
		{"01", node(0, no, node(0, cube.Tree{Bit: 1}, yes)), false},
		{"01", node(0, no, node(0, cube.Tree{Parts: []cube.Tree{no}}, yes)), false},
		{"01", node(0, no, node(0, cube.Tree{Value: true, Parts: []cube.Tree{no, no}}, yes)), false},
		{"0", cube.Tree{Parts: []cube.Tree{}}, true}, {"0", cube.Tree{Bit: 1}, false}, {"0", cube.Tree{Bit: -1}, false}, {"00", cube.Tree{Bit: 1}, false}, {"0000", cube.Tree{Bit: 1}, false},
		{"01", cube.Tree{Value: true, Parts: []cube.Tree{no, yes}}, false}, {"01", cube.Tree{Parts: []cube.Tree{no, yes, no}}, false}, {"00", cube.Tree{Parts: []cube.Tree{no}}, false}, {"00", cube.Tree{Parts: make([]cube.Tree, 3)}, false},
		{"01", cube.Tree{Parts: []cube.Tree{no, yes, no}[:2]}, true}, {"0", cube.Tree{Parts: []cube.Tree{no, yes}[:0]}, true},
	} {
		if is := cube.Finds(table(x.f), x.tree); is != x.want {
			t.Errorf("Finds of %s and %v: %t", x.f, x.tree, is)
		}
	}
	for _, n := range extremes {
		if cube.Finds(table("0"), cube.Tree{Bit: n}) || cube.Finds(table("01"), node(n, no, yes)) || cube.Finds(where(6, func(x int) bool { return x&1 == 1 }), node(n, no, yes)) {
			t.Errorf("Finds of a tree with bit %d", n)
		}
	}
}

// bush is a tree of so many nodes all of whose leaves have the value, with as few levels as possible.
func bush(nodes int, value bool) cube.Tree {
	if nodes == 0 {
		return leaf(value)
	}
	return node(nodes%2, bush((nodes-1)/2, value), bush(nodes/2, value))
}

// pole is a tree of so many levels, each with one node, all of whose leaves have the value.
func pole(levels int, value bool) cube.Tree {
	t := leaf(value)
	for i := range levels {
		if i%2 == 0 {
			t = node(i%2, t, leaf(value))
		} else {
			t = node(i%2, leaf(value), t)
		}
	}
	return t
}

func TestLargeTrees(t *testing.T) {
	all := where(2, func(int) bool { return true })
	for _, n := range []int{0, 1, 10, 500, 998, 999, 1000, 1001, 1002, 2000, 2001, 100_000} {
		for _, tree := range []cube.Tree{bush(n, true), node(0, bush(n/2, true), bush(n/2, true))} {
			if is := cube.Finds(all, tree); is != (nodes(tree) <= 1000) {
				t.Errorf("Finds of %d nodes: %t", nodes(tree), is)
			}
		}
	}
	for _, n := range []int{0, 1, 50, 98, 99, 100, 101, 102, 150, 1000, 1 << 16} {
		for _, tree := range []cube.Tree{pole(n, true), node(1, leaf(true), pole(max(n-1, 0), true)), node(0, bush(500, true), pole(max(n-1, 0), true))} {
			if is := cube.Finds(all, tree); is != (levels(tree) <= 100) {
				t.Errorf("Finds of %d levels: %t", levels(tree), is)
			}
		}
	}
	if cube.Finds(all, node(0, bush(999, true), leaf(false))) || !cube.Finds(table("0101"), node(0, bush(500, false), bush(499, true))) || cube.Finds(table("0101"), node(0, bush(500, false), bush(500, true))) {
		t.Errorf("Finds of nodes in both parts")
	}
}

// Trees may share parts, and so have far more nodes than there is memory, or contain themselves.
func TestTreesThatShareParts(t *testing.T) {
	all := where(2, func(int) bool { return true })
	deep := leaf(true)
	for i := range 150 {
		if is := cube.Finds(all, deep); is != (i <= 9) { // 2^9 - 1 nodes, or more than 1000
			t.Errorf("Finds of a full tree of %d levels: %t", i, is)
		}
		deep = node(i%2, deep, deep)
	}
	for i := range 4 {
		round := make([]cube.Tree, 2)
		round[0], round[1] = leaf(true), leaf(true)
		for k := range 2 {
			if i>>k&1 == 0 || i == 3 {
				round[k] = cube.Tree{Parts: round}
			}
		}
		if cube.Finds(all, cube.Tree{Parts: round}) {
			t.Errorf("Finds of a tree that contains itself")
		}
	}
}

// lists are the lists of parts in a tree.
func lists(t cube.Tree) [][]cube.Tree {
	if len(t.Parts) == 0 {
		return nil
	}
	return append(append(lists(t.Parts[0]), lists(t.Parts[1])...), t.Parts)
}

// R4: the table is left as it is, and no two parts of a tree share memory.
func TestTreesAreNew(t *testing.T) {
	for _, f := range functions(744, 5, 50) {
		spare := append(slices.Clone(f), true, false)
		tree := got(t, "Decide", spare[:len(f)], cube.Decide)
		seen := map[*cube.Tree]bool{}
		for _, parts := range lists(tree) {
			if seen[&parts[0]] || seen[&parts[1]] {
				t.Errorf("Decide of %s: %v shares memory", text(f), tree)
			}
			seen[&parts[0]], seen[&parts[1]] = true, true
			clear(parts)
		}
		if again := got(t, "Decide", spare[:len(f)], cube.Decide); !finds(f, again) || text(spare) != text(f)+"10" {
			t.Errorf("Decide of %s, later: %v", text(f), again)
		}
	}
}
