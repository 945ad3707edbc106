package cube

import "stadda/api"

const (
	maxTreeBits = 5    // the bits of a function for which a tree is made
	maxNodes    = 1000 // the nodes of a tree that is looked at
	maxLevels   = 100  // the levels of these nodes
)

// Tree is a leaf with a value, or a node: a bit, and the trees for the numbers without it and for those with it.
type Tree struct {
	Bit   int
	Value bool
	Parts []Tree
}

// choice is the depth of a part of f, and the bit of the first node of a tree for it.
type choice struct {
	depth, bit int
}

// halves are the numbers of the part without the bit, and those with it.
func (p part) halves(bit int) (part, part) {
	mask := p.mask | 1<<bit
	return part{mask, p.value}, part{mask, p.value | 1<<bit}
}

// choices are the best choices for all parts that trees for f meet.
func choices(f []bool) (map[part]choice, api.Errno) {
	if e := Check(f); e != api.OK {
		return nil, e
	}
	if width(f) > maxTreeBits {
		return nil, api.ErrLong
	}
	known := map[part]choice{}
	var depth func(p part) int
	depth = func(p part) int {
		if c, isKnown := known[p]; isKnown {
			return c.depth
		}
		var best choice
		if !p.has(f, f[p.value]) {
			best.depth = width(f) + 1
			for bit := range width(f) {
				if p.mask>>bit&1 == 1 {
					continue
				}
				without, with := p.halves(bit)
				if d := 1 + max(depth(without), depth(with)); d < best.depth {
					best = choice{d, bit}
				}
			}
		}
		known[p] = best
		return best.depth
	}
	depth(part{})
	return known, api.OK
}

// Depth is the depth of f.
func Depth(f []bool) (int, api.Errno) {
	known, e := choices(f)
	return known[part{}].depth, e
}

// Decide is a tree of the least depth that finds f.
func Decide(f []bool) (Tree, api.Errno) {
	known, e := choices(f)
	if e != api.OK {
		return Tree{}, e
	}
	var build func(p part) Tree
	build = func(p part) Tree {
		best := known[p]
		if best.depth == 0 {
			return Tree{Value: f[p.value]}
		}
		without, with := p.halves(best.bit)
		return Tree{Bit: best.bit, Parts: []Tree{build(without), build(with)}}
	}
	return build(part{}), api.OK
}

// isTree tells whether t is a tree for functions of so many bits, and not too large.
func isTree(t Tree, width int) bool {
	nodes := 0
	var check func(t Tree, levels int) bool
	check = func(t Tree, levels int) bool {
		if len(t.Parts) == 0 {
			return t.Bit == 0
		}
		nodes++
		if nodes > maxNodes || levels == maxLevels || len(t.Parts) != 2 || t.Value || t.Bit < 0 || t.Bit >= width {
			return false
		}
		return check(t.Parts[0], levels+1) && check(t.Parts[1], levels+1)
	}
	return check(t, 0)
}

// Finds tells whether t is a tree that finds f.
func Finds(f []bool, t Tree) bool {
	if Check(f) != api.OK || !isTree(t, width(f)) {
		return false
	}
	for x, is := range f {
		leaf := t
		for len(leaf.Parts) > 0 {
			leaf = leaf.Parts[x>>leaf.Bit&1]
		}
		if leaf.Value != is {
			return false
		}
	}
	return true
}
