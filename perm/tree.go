package perm

import (
	"slices"

	"rabbet/api"
)

// The kinds of block trees.
const (
	Leaf = iota
	Plus
	Minus
	Simple
)

const (
	minSimple = 4    // parts of a node of the Kind Simple
	maxNodes  = 1000 // of a tree
)

// Tree is a block tree.
type Tree struct {
	Kind  int
	Perm  []int
	Parts []Tree
}

// Blocks returns the canonical block tree of p.
func Blocks(p []int) (Tree, api.Errno) {
	if e := Check(p); e != api.OK {
		return Tree{}, e
	}
	return blockTree(p), api.OK
}

// blockTree returns the tree of a list of values without a gap.
func blockTree(p []int) Tree {
	if len(p) == 1 {
		return Tree{Kind: Leaf}
	}
	kind, blocks := divide(p)
	t := Tree{Kind: kind}
	if kind == Simple {
		t.Perm = pattern(blocks)
	}
	for _, block := range blocks {
		t.Parts = append(t.Parts, blockTree(block))
	}
	return t
}

// divide returns the uppermost kind of at least two values without a gap, and what its parts represent.
func divide(p []int) (int, [][]int) {
	if blocks := cut(p, less); len(blocks) > 1 {
		return Plus, blocks
	}
	if blocks := cut(p, greater); len(blocks) > 1 {
		return Minus, blocks
	}
	return Simple, longest(p)
}

// cut cuts p wherever all values before the cut are apart from all behind it, in the same direction.
func cut(p []int, apart func(before, behind []int) bool) [][]int {
	var out [][]int
	start := 0
	for end := 1; end < len(p); end++ {
		if apart(p[start:end], p[end:]) {
			out = append(out, p[start:end])
			start = end
		}
	}
	return append(out, p[start:])
}

func less(before, behind []int) bool {
	return slices.Max(before) < slices.Min(behind)
}

func greater(before, behind []int) bool {
	return slices.Min(before) > slices.Max(behind)
}

// longest divides p, which cannot be cut, into its longest blocks but itself: they do not overlap, as two that do make one block, and all of p could be cut then.
func longest(p []int) [][]int {
	var out [][]int
	for start := 0; start < len(p); {
		end := len(p)
		if start == 0 {
			end--
		}
		for gap(p[start:end]) {
			end--
		}
		out = append(out, p[start:end])
		start = end
	}
	return out
}

// gap reports whether a value is missing between others.
func gap(list []int) bool {
	return slices.Max(list)-slices.Min(list) >= len(list)
}

// pattern returns the permutation in whose order the values of the blocks are.
func pattern(blocks [][]int) []int {
	out := make([]int, len(blocks))
	for i, block := range blocks {
		for _, other := range blocks {
			if other[0] < block[0] {
				out[i]++
			}
		}
	}
	return out
}

// simple reports whether perm is a simple permutation.
func simple(perm []int) bool {
	if len(perm) < minSimple || Check(perm) != api.OK {
		return false
	}
	kind, blocks := divide(perm)
	return kind == Simple && len(blocks) == len(perm)
}

// Fill returns the permutation that a canonical block tree represents.
func Fill(t Tree) ([]int, api.Errno) {
	nodes := 0
	p, ok := fill(t, &nodes)
	if !ok || len(p) > api.MaxPerm {
		return nil, api.ErrTree
	}
	return p, api.OK
}

// fill returns what t represents; false if it is not canonical. It counts the nodes, as a tree may be a part of itself. (Levels need no count: a canonical tree has no more of them than leaves.)
func fill(t Tree, nodes *int) ([]int, bool) {
	*nodes++
	if *nodes > maxNodes || !wellFormed(t) {
		return nil, false
	}
	if t.Kind == Leaf {
		return []int{0}, true
	}
	var blocks [][]int
	for _, part := range t.Parts {
		block, ok := fill(part, nodes)
		if !ok || part.Kind == t.Kind && t.Kind != Simple {
			return nil, false
		}
		blocks = append(blocks, block)
	}
	return inflate(partOrder(t), blocks), true
}

// wellFormed looks at the node alone.
func wellFormed(t Tree) bool {
	switch t.Kind {
	case Leaf:
		return len(t.Perm) == 0 && len(t.Parts) == 0
	case Plus, Minus:
		return len(t.Perm) == 0 && len(t.Parts) >= 2
	case Simple:
		return len(t.Perm) == len(t.Parts) && simple(t.Perm)
	}
	return false
}

// partOrder returns the permutation in whose order the values of the parts are.
func partOrder(t Tree) []int {
	if t.Kind == Simple {
		return t.Perm
	}
	p := rising(len(t.Parts))
	if t.Kind == Minus {
		slices.Reverse(p)
	}
	return p
}

// inflate puts the blocks one after the other, with values in the order of a permutation.
func inflate(order []int, blocks [][]int) []int {
	var out []int
	for i, block := range blocks {
		below := 0
		for j, other := range blocks {
			if order[j] < order[i] {
				below += len(other)
			}
		}
		for _, v := range block {
			out = append(out, below+v)
		}
	}
	return out
}
