package shape

import (
	"iter"
	"maps"
	"slices"
)

// face is a list of vertices as a value. Behind them there is only 0, so that values are equal just if the lists are.
type face struct {
	size     int
	vertices [maxSize]int
}

// faceOf returns a list as a face. Of a list that is too long it keeps the length, and is like no face of a complex.
func faceOf(list []int) face {
	f := face{size: len(list)}
	copy(f.vertices[:], list)
	return f
}

func (f face) list() []int {
	return slices.Clone(f.vertices[:f.size])
}

// sides yields the faces without one of its vertices, each behind the index of that one. A vertex has none.
func (f face) sides() iter.Seq2[int, face] {
	return func(yield func(int, face) bool) {
		if f.size < 2 {
			return
		}
		for i := range f.size {
			list := f.list()
			if !yield(i, faceOf(slices.Delete(list, i, i+1))) {
				return
			}
		}
	}
}

func (f face) hasSide(other face) bool {
	for _, side := range f.sides() {
		if side == other {
			return true
		}
	}
	return false
}

// choices yields all ways to choose n elements of a list, in the order of their positions.
func choices(list []int, n int) iter.Seq[[]int] {
	return func(yield func([]int) bool) {
		var extend func(chosen, rest []int) bool
		extend = func(chosen, rest []int) bool {
			if len(chosen) == n {
				return yield(slices.Clone(chosen))
			}
			for i, x := range rest {
				if !extend(append(chosen, x), rest[i+1:]) {
					return false
				}
			}
			return true
		}
		extend(nil, list)
	}
}

// facesOf yields the faces of dimension k, each once, in their order.
func facesOf(c [][]int, k int) iter.Seq[face] {
	return func(yield func(face) bool) {
		found := map[face]bool{}
		for _, facet := range c {
			for part := range choices(facet, k+1) {
				found[faceOf(part)] = true
			}
		}
		for _, f := range slices.SortedFunc(maps.Keys(found), compare) {
			if !yield(f) {
				return
			}
		}
	}
}

// compare compares faces of one dimension.
func compare(f, g face) int {
	return slices.Compare(f.vertices[:], g.vertices[:])
}

// figure is a complex, by its faces of each dimension.
type figure struct {
	faces [maxSize][]face
	place map[face]int // of each face, among those of its dimension
}

func figureOf(c [][]int) figure {
	g := figure{place: map[face]int{}}
	for k := range g.faces {
		for f := range facesOf(c, k) {
			g.place[f] = len(g.faces[k])
			g.faces[k] = append(g.faces[k], f)
		}
	}
	return g
}

func (g figure) has(f face) bool {
	_, ok := g.place[f]
	return ok
}

// of returns the faces of a dimension, which may be any number.
func (g figure) of(k int) []face {
	if k < 0 || k >= maxSize {
		return nil
	}
	return g.faces[k]
}
