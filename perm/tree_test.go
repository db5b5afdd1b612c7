package perm_test

import (
	"reflect"
	"slices"
	"strconv"
	"testing"

	"rabbet/api"
	"rabbet/perm"
)

func leaf() perm.Tree                        { return perm.Tree{Kind: perm.Leaf} }
func plus(p ...perm.Tree) perm.Tree          { return perm.Tree{Kind: perm.Plus, Parts: p} }
func minus(p ...perm.Tree) perm.Tree         { return perm.Tree{Kind: perm.Minus, Parts: p} }
func leaves(n int) []perm.Tree               { return make([]perm.Tree, n) }
func node(p []int, x ...perm.Tree) perm.Tree { return perm.Tree{Kind: perm.Simple, Perm: p, Parts: x} }
func star(p ...int) perm.Tree                { return node(p, leaves(len(p))...) }

// write is a tree as text: nil and empty slices are the same in it.
func write(t perm.Tree) string {
	out := strconv.Itoa(t.Kind)
	for _, v := range t.Perm {
		out += "," + strconv.Itoa(v)
	}
	out += "("
	for _, part := range t.Parts {
		out += write(part)
	}
	return out + ")"
}

// simple is the definition.
func simple(p []int) bool {
	for i := range p {
		for j := i + 2; j <= len(p); j++ {
			if j-i < len(p) && slices.Max(p[i:j])-slices.Min(p[i:j]) == j-i-1 {
				return false
			}
		}
	}
	return true
}

// splits returns all ways to write n as a sum of k numbers above 0.
func splits(n, k int) [][]int {
	if k == 0 {
		if n == 0 {
			return [][]int{nil}
		}
		return nil
	}
	var out [][]int
	for first := 1; first <= n; first++ {
		for _, rest := range splits(n-first, k-1) {
			out = append(out, append([]int{first}, rest...))
		}
	}
	return out
}

// grow returns all canonical block trees with up to n leaves, by their numbers of leaves, built from the definition.
func grow(n int) [][]perm.Tree {
	all := [][]perm.Tree{nil, {leaf()}}
	for size := 2; size <= n; size++ {
		var next []perm.Tree
		for k := 2; k <= size; k++ {
			shapes := []perm.Tree{{Kind: perm.Plus}, {Kind: perm.Minus}}
			for _, p := range lists(k) {
				if k >= 4 && simple(p) {
					shapes = append(shapes, perm.Tree{Kind: perm.Simple, Perm: p})
				}
			}
			for _, shape := range shapes {
				for _, split := range splits(size, k) {
					next = append(next, filled(all, shape, split)...)
				}
			}
		}
		all = append(all, next)
	}
	return all
}

// filled returns all trees of a shape whose parts have the numbers of leaves of a split.
func filled(all [][]perm.Tree, shape perm.Tree, split []int) []perm.Tree {
	if len(split) == 0 {
		return []perm.Tree{shape}
	}
	var out []perm.Tree
	for _, part := range all[split[0]] {
		if part.Kind != shape.Kind || part.Kind == perm.Simple {
			next := shape
			next.Parts = append(slices.Clone(shape.Parts), part)
			out = append(out, filled(all, next, split[1:])...)
		}
	}
	return out
}

// P2.6 and P2.10: of each permutation there is just one canonical tree, and Blocks and Fill undo each other.
func TestTrees(t *testing.T) {
	for n, trees := range grow(7) {
		seen := map[string]bool{}
		for _, tree := range trees {
			p, e := perm.Fill(tree)
			must(t, e)
			if len(p) != n || perm.Check(p) != api.OK {
				t.Fatalf("Fill(%s): %v", write(tree), p)
			}
			seen[write(perm.Tree{Perm: p})] = true
			back, e := perm.Blocks(p)
			if e != api.OK || write(back) != write(tree) {
				t.Fatalf("Blocks(%v): %s, %d, not %s", p, write(back), e, write(tree))
			}
		}
		if n > 0 && len(seen) != len(lists(n)) {
			t.Errorf("%d elements: %d trees represent %d permutations", n, len(trees), len(seen))
		}
	}
	for seed := range int64(50) {
		p := mixed(seed, int(40+seed%21))
		tree, e := perm.Blocks(p)
		must(t, e)
		if q, e := perm.Fill(tree); !same(p, q) || e != api.OK {
			t.Fatalf("Fill(Blocks(%v)): %v, %d", p, q, e)
		}
	}
}

// P2.6: trees and the permutations that they represent, worked out by hand.
func TestTreeCases(t *testing.T) {
	if perm.Leaf != 0 || perm.Plus != 1 || perm.Minus != 2 || perm.Simple != 3 {
		t.Error("the kinds are not 0, 1, 2, 3")
	}
	tests := []struct {
		p    []int
		tree perm.Tree
	}{
		{[]int{0}, leaf()},
		{[]int{0, 1}, plus(leaves(2)...)},
		{[]int{1, 0}, minus(leaves(2)...)},
		{[]int{0, 1, 2}, plus(leaves(3)...)},
		{[]int{0, 2, 1}, plus(leaf(), minus(leaves(2)...))},
		{[]int{2, 0, 1}, minus(leaf(), plus(leaves(2)...))},
		{[]int{1, 3, 0, 2}, star(1, 3, 0, 2)},
		{[]int{2, 0, 3, 1}, star(2, 0, 3, 1)},
		{[]int{2, 3, 5, 0, 1, 4}, node([]int{1, 3, 0, 2}, plus(leaves(2)...), leaf(), plus(leaves(2)...), leaf())},
		{[]int{3, 1, 4, 2, 0}, minus(star(2, 0, 3, 1), leaf())},
		{[]int{4, 5, 2, 3, 1, 0}, minus(plus(leaves(2)...), plus(leaves(2)...), leaf(), leaf())},
		{[]int{2, 4, 1, 3, 6, 0, 5}, node([]int{1, 3, 0, 2}, star(1, 3, 0, 2), leaf(), leaf(), leaf())},
		{[]int{1, 4, 2, 0, 3}, star(1, 4, 2, 0, 3)},
		{up(api.MaxPerm), plus(leaves(api.MaxPerm)...)},
		{down(api.MaxPerm), minus(leaves(api.MaxPerm)...)},
	}
	for _, x := range tests {
		if tree, e := perm.Blocks(x.p); e != api.OK || write(tree) != write(x.tree) {
			t.Errorf("Blocks(%v): %s, %d, not %s", x.p, write(tree), e, write(x.tree))
		}
		if p, e := perm.Fill(x.tree); e != api.OK || !same(p, x.p) {
			t.Errorf("Fill(%s): %v, %d, not %v", write(x.tree), p, e, x.p)
		}
	}
}

// P2.6: what is no canonical tree.
func TestFillErrors(t *testing.T) {
	pair := plus(leaves(2)...)
	trees := map[string]perm.Tree{
		"kind -1": {Kind: -1}, "kind 4": {Kind: 4, Parts: leaves(2)}, "kind 4, a Perm": {Kind: 4, Perm: []int{1, 3, 0, 2}, Parts: leaves(4)},
		"a leaf with a part": {Parts: leaves(1)}, "a leaf with parts": {Parts: leaves(2)}, "a leaf with a Perm": {Perm: []int{0}}, "a leaf with both": {Perm: []int{1, 3, 0, 2}, Parts: leaves(4)},
		"a Plus without parts": plus(), "a Plus of one": plus(leaf()), "a Minus without parts": minus(), "a Minus of one": minus(leaf()),
		"a Plus with a Perm": {Kind: perm.Plus, Perm: []int{0, 1}, Parts: leaves(2)}, "a Minus with a Perm": {Kind: perm.Minus, Perm: []int{1, 0}, Parts: leaves(2)},
		"a Plus in a Plus": plus(leaf(), pair), "a Plus first in a Plus": plus(pair, leaf()), "a Minus in a Minus": minus(leaf(), minus(leaves(2)...)), "a Minus in the middle": minus(leaf(), minus(leaves(2)...), leaf()),
		"a Simple of nothing": node(nil), "a Simple of one": star(0), "a Simple of two": star(1, 0), "a Simple of two, rising": star(0, 1), "a Simple of three": star(1, 2, 0), "a Simple of three others": star(0, 2, 1),
		"no simple Perm": star(0, 1, 2, 3), "no simple Perm, a block at the end": star(2, 0, 3, 1, 4), "a block at the start": star(0, 2, 4, 1, 3), "a block in the middle": star(1, 4, 3, 0, 2), "a block of three": star(0, 4, 2, 3, 1, 5), "a falling Perm": star(3, 2, 1, 0), "a block of all but one": star(4, 1, 3, 0, 2),
		"too few parts": node([]int{1, 3, 0, 2}, leaves(3)...), "too many parts": node([]int{1, 3, 0, 2}, leaves(5)...), "no Perm": node(nil, leaves(4)...), "no parts": node([]int{1, 3, 0, 2}),
		"a Perm that is none": star(1, 3, 0, 3), "a Perm from 1": star(2, 4, 1, 3), "a Perm below 0": star(1, 3, -1, 2), "a Perm with a gap": star(1, 4, 0, 2),
		"a fault below": plus(leaf(), minus(leaf(), plus(leaf()))), "a fault in a Simple": node([]int{1, 3, 0, 2}, leaf(), leaf(), leaf(), perm.Tree{Kind: 7}), "a fault in the first part": minus(plus(), leaf()),
		"61 leaves": plus(leaves(61)...), "61 falling leaves": minus(leaves(61)...), "61 leaves below": minus(plus(leaves(30)...), plus(leaves(31)...)), "100000 leaves": plus(leaves(100000)...), "a Simple of 62": star(zigzag(62)...),
		"31 pairs": plus(pairs(31)...),
	}
	for name, tree := range trees {
		if p, e := perm.Fill(tree); len(p) > 0 || e != api.ErrTree {
			t.Errorf("Fill, %s: %v, %d", name, p, e)
		}
	}
}

// pairs returns n trees of two elements.
func pairs(n int) []perm.Tree {
	var out []perm.Tree
	for range n {
		out = append(out, minus(leaves(2)...))
	}
	return out
}

// zigzag returns n/2, 0, n/2 + 1, 1 and so on: for an even n from 4 on it is simple.
func zigzag(n int) []int {
	var out []int
	for i := range n / 2 {
		out = append(out, n/2+i, i)
	}
	return out
}

// P2.6: the largest trees that are valid.
func TestFillLimits(t *testing.T) {
	high := leaf() // 60 levels
	for i := range 59 {
		high = perm.Tree{Kind: perm.Plus + i%2, Parts: []perm.Tree{leaf(), high}}
	}
	for name, tree := range map[string]perm.Tree{"60 levels": high, "30 pairs": plus(pairs(30)...), "a Simple of 60": star(zigzag(60)...), "a Simple of pairs": node(zigzag(30), pairs(30)...)} {
		p, e := perm.Fill(tree)
		if len(p) != api.MaxPerm || e != api.OK {
			t.Errorf("Fill, %s: %v, %d", name, p, e)
		}
		if back, e := perm.Blocks(p); e != api.OK || write(back) != write(tree) {
			t.Errorf("Blocks, %s: %s, %d", name, write(back), e)
		}
	}
	for _, above := range []perm.Tree{minus(leaf(), high), plus(high, leaf())} {
		if p, e := perm.Fill(above); len(p) > 0 || e != api.ErrTree {
			t.Errorf("Fill of 61 elements: %v, %d", p, e)
		}
	}
}

// P1 and P2.6: trees that contain themselves, or the same part again and again.
func TestFillEnds(t *testing.T) {
	self := plus(leaves(2)...)
	self.Parts[1] = self
	turn := plus(leaf(), minus(leaves(2)...))
	turn.Parts[1].Parts[1] = turn
	round := node([]int{1, 3, 0, 2}, leaves(4)...)
	for i := range 4 {
		round.Parts[i] = round
	}
	doubled := leaf()
	for i := range 200 {
		doubled = perm.Tree{Kind: perm.Plus + i%2, Parts: []perm.Tree{doubled, doubled}}
	}
	alone := plus(leaf())
	alone.Parts[0] = alone
	chain := leaf()
	for range 100000 {
		chain = perm.Tree{Kind: perm.Plus, Parts: []perm.Tree{chain}}
	}
	for name, tree := range map[string]perm.Tree{"itself": self, "itself, below": turn, "itself four times": round, "doubled": doubled, "alone": alone, "a chain": chain} {
		if p, e := perm.Fill(tree); len(p) > 0 || e != api.ErrTree {
			t.Errorf("Fill, %s: %v, %d", name, p, e)
		}
	}
}

// R4: Fill neither changes its argument nor shares memory with its result.
func TestFillMemory(t *testing.T) {
	tree := node([]int{1, 3, 0, 2}, star(2, 0, 3, 1), leaf(), plus(leaves(2)...), leaf())
	before := write(tree)
	p, e := perm.Fill(tree)
	must(t, e)
	q, _ := perm.Fill(tree)
	spoil(p)
	if again, _ := perm.Fill(tree); write(tree) != before || !reflect.DeepEqual(q, again) {
		t.Errorf("Fill(%s) shares memory", before)
	}
}

// anySimple reports whether a tree has a node of the Kind Simple.
func anySimple(t perm.Tree) bool {
	return t.Kind == perm.Simple || slices.ContainsFunc(t.Parts, anySimple)
}

// P2.8: a tree has a Simple just if one of the two patterns occurs.
func TestSeparable(t *testing.T) {
	for _, p := range append(upTo(7), mixed(1, 20), mixed(2, 30)) {
		tree, e := perm.Blocks(p)
		must(t, e)
		_, a, _ := perm.Find(p, []int{1, 3, 0, 2})
		_, b, _ := perm.Find(p, []int{2, 0, 3, 1})
		_, baxter, _ := perm.Baxter(p)
		if anySimple(tree) != (a || b) || !anySimple(tree) && !baxter {
			t.Fatalf("%v: %s, %t, %t, %t", p, write(tree), a, b, baxter)
		}
	}
}
