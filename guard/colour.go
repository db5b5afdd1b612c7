package guard

import (
	"slices"

	"rabbet/api"
)

// Colours returns the colours of a triangulation.
func Colours(wall [][2]int64, l [][3]int) ([]int, api.Errno) {
	if e := Check(wall); e != api.OK {
		return nil, e
	}
	if !isDivision(wall, l) {
		return nil, api.ErrArg
	}
	return colours(len(wall), l), api.OK
}

// colours begins with corners 0 and 1, which a triangle has; a corner that is the last one of a triangle without a colour gets the one that is left.
func colours(corners int, l [][3]int) []int {
	out := slices.Repeat([]int{-1}, corners)
	out[0], out[1] = 0, 1
	for range l {
		for _, t := range l {
			for i, corner := range t {
				a, b := out[t[(i+1)%3]], out[t[(i+2)%3]]
				if out[corner] < 0 && a >= 0 && b >= 0 {
					out[corner] = 3 - a - b
				}
			}
		}
	}
	return out
}

// Guards returns guards and a triangulation for which they are guards: the corners of a colour that no other one has fewer of.
func Guards(wall [][2]int64) ([]int, [][3]int, api.Errno) {
	l, e := Divide(wall)
	if e != api.OK {
		return nil, nil, e
	}
	var groups [3][]int
	for corner, colour := range colours(len(wall), l) {
		groups[colour] = append(groups[colour], corner)
	}
	fewest := slices.MinFunc(groups[:], func(a, b []int) int { return len(a) - len(b) })
	return fewest, l, api.OK
}

// AreGuards reports whether a list of triangles is a triangulation, and each of them has a guard.
func AreGuards(wall [][2]int64, guards []int, l [][3]int) bool {
	if !IsDivision(wall, l) {
		return false
	}
	for i, g := range guards {
		if g < 0 || g >= len(wall) || i > 0 && guards[i-1] >= g {
			return false
		}
	}
	unguarded := func(t [3]int) bool {
		return !slices.ContainsFunc(guards, func(g int) bool { return slices.Contains(t[:], g) })
	}
	return !slices.ContainsFunc(l, unguarded)
}
