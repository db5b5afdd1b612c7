package guard

import (
	"cmp"
	"iter"
)

// side is a side of a wall, or the segment between any two points.
type side struct {
	from, to [2]int64
}

// around yields each element with the one that follows it, the first one after the last.
func around[T any](list []T) iter.Seq2[T, T] {
	return func(yield func(T, T) bool) {
		for i, x := range list {
			if !yield(x, list[(i+1)%len(list)]) {
				return
			}
		}
	}
}

// sides yields the sides of a wall, the one from the first corner first.
func sides(wall [][2]int64) iter.Seq[side] {
	return func(yield func(side) bool) {
		for p, q := range around(wall) {
			if !yield(side{p, q}) {
				return
			}
		}
	}
}

// lean is above 0 if a point is on the left of the side's line, below 0 if it is on the right: twice the area of the triangle of both.
func (s side) lean(x [2]int64) int64 {
	return (s.to[0]-s.from[0])*(x[1]-s.from[1]) - (s.to[1]-s.from[1])*(x[0]-s.from[0])
}

// turn is the sign of the lean, as the product of two leans may be too large.
func (s side) turn(x [2]int64) int {
	return cmp.Compare(s.lean(x), 0)
}

// parts returns -1 if the line of s has the ends of t on its two sides, 0 if one of them is on it, otherwise 1.
func (s side) parts(t side) int {
	return s.turn(t.from) * s.turn(t.to)
}

// crosses reports whether two segments have a point in common that is an end of neither, and are not on one line.
func (s side) crosses(t side) bool {
	return s.parts(t) < 0 && t.parts(s) < 0
}

// meets reports whether two segments have a point in common.
func (s side) meets(t side) bool {
	return s.reaches(t, 0) && s.reaches(t, 1) && s.parts(t) <= 0 && t.parts(s) <= 0
}

// reaches reports whether the ranges of two segments' numbers have one in common.
func (s side) reaches(t side, number int) bool {
	a, b, c, d := s.from[number], s.to[number], t.from[number], t.to[number]
	return min(a, b) <= max(c, d) && min(c, d) <= max(a, b)
}

// holds reports whether a point is on a segment.
func (s side) holds(x [2]int64) bool {
	return s.meets(side{x, x})
}
