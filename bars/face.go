package bars

import (
	"iter"
	"maps"
	"slices"

	"rabbet/shape"
)

// levels returns the faces of each shade, those of lower dimensions first.
func levels(c [][]int, shades []int) map[int][][]int {
	out := map[int][][]int{}
	for k := range maxDimension {
		faces, _ := shape.Faces(c, k)
		for _, face := range faces {
			s := shadeOf(face, shades)
			out[s] = append(out[s], face)
		}
	}
	return out
}

// shadeOf returns the shade of a face: the greatest one of its vertices.
func shadeOf(face, shades []int) int {
	shade := -maxShade
	for _, v := range face {
		shade = max(shade, shades[v])
	}
	return shade
}

// rising returns the shades of levels.
func rising(levels map[int][][]int) []int {
	return slices.Sorted(maps.Keys(levels))
}

// byShade yields the faces in the order of their shades, each behind its own. Sides come before what they are sides of.
func byShade(c [][]int, shades []int) iter.Seq2[int, []int] {
	return func(yield func(int, []int) bool) {
		all := levels(c, shades)
		for _, shade := range rising(all) {
			for _, face := range all[shade] {
				if !yield(shade, face) {
					return
				}
			}
		}
	}
}

// setOf returns the vertices of a face as a number, which has a bit for each of them.
func setOf(face []int) int {
	set := 0
	for _, v := range face {
		set |= 1 << v
	}
	return set
}
