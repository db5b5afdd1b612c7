package shape

import (
	"slices"

	"rabbet/api"
)

// Match returns a matching. It takes faces away: two of them, where one has a single side that is left, and otherwise the first one that is left, which is critical. As the other sides of a pair's second face are gone before it, a pair leads on to earlier ones alone, and there is no round. As an edge whose one vertex is gone takes the other one along, a connected part goes as a whole, but for its first vertex.
func Match(c [][]int) ([]Pair, api.Errno) {
	if e := Check(c); e != api.OK {
		return nil, e
	}
	g := figureOf(c)
	order := slices.Concat(g.faces[:]...)
	left := map[face]bool{}
	for _, f := range order {
		left[f] = true
	}
	var out []Pair
	for len(order) > 0 {
		pairs := takePairs(order, left)
		if len(pairs) == 0 {
			delete(left, order[0])
		}
		out = append(out, pairs...)
		order = slices.DeleteFunc(order, func(f face) bool { return !left[f] })
	}
	return out, api.OK
}

// takePairs takes away each face that has a single side left, with that side. A face that is gone has none: all of its sides are gone before it, or with it.
func takePairs(order []face, left map[face]bool) []Pair {
	var out []Pair
	for _, f := range order {
		var sides []face
		for _, side := range f.sides() {
			if left[side] {
				sides = append(sides, side)
			}
		}
		if len(sides) == 1 {
			out = append(out, Pair{sides[0].list(), f.list()})
			delete(left, f)
			delete(left, sides[0])
		}
	}
	return out
}

// IsMatching reports whether pairs are a matching.
func IsMatching(c [][]int, pairs []Pair) bool {
	return Check(c) == api.OK && isMatching(figureOf(c), pairs)
}

func isMatching(g figure, pairs []Pair) bool {
	used := map[face]bool{}
	over := map[face]face{}
	for _, p := range pairs {
		f, h := faceOf(p.Face), faceOf(p.Over)
		if used[f] || used[h] || !g.has(h) || !h.hasSide(f) {
			return false
		}
		used[f], used[h] = true, true
		over[f] = h
	}
	return !hasRound(over)
}

// hasRound takes away the pairs, by their faces, that lead on to no other one, until none are left or each leads on.
func hasRound(over map[face]face) bool {
	leadsOn := func(f face) bool {
		for _, side := range over[f].sides() {
			if _, ok := over[side]; ok && side != f {
				return true
			}
		}
		return false
	}
taking:
	for len(over) > 0 {
		for f := range over {
			if !leadsOn(f) {
				delete(over, f)
				continue taking
			}
		}
		return true
	}
	return false
}

// Critical returns how many faces of each dimension are in no pair of a matching.
func Critical(c [][]int, pairs []Pair) ([]int, api.Errno) {
	if e := Check(c); e != api.OK {
		return nil, e
	}
	g := figureOf(c)
	if !isMatching(g, pairs) {
		return nil, api.ErrArg
	}
	var counts []int
	for _, faces := range g.faces {
		if len(faces) > 0 {
			counts = append(counts, len(faces))
		}
	}
	for _, p := range pairs {
		counts[len(p.Face)-1]--
		counts[len(p.Over)-1]--
	}
	return counts, api.OK
}
