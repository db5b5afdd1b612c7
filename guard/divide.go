package guard

import (
	"slices"

	"rabbet/api"
)

// maxCount is the greatest number of corners for which Count counts.
const maxCount = 30

// Divide returns a triangulation.
func Divide(wall [][2]int64) ([][3]int, api.Errno) {
	if e := Check(wall); e != api.OK {
		return nil, e
	}
	return divide(len(wall), sightsOf(wall).join), api.OK
}

// divide cuts off one corner after the other, as long as there are more than two. One whose neighbours may be joined can be cut off, and what is left, a wall but for corners that may be straight, always has such a one.
func divide(corners int, joined func(i, j int) bool) [][3]int {
	var out [][3]int
	left := make([]int, 0, corners)
	for i := range corners {
		left = append(left, i)
	}
cutting:
	for len(left) > 2 {
		for at, corner := range left {
			before, after := left[(at+len(left)-1)%len(left)], left[(at+1)%len(left)]
			if joined(before, after) {
				triangle := [3]int{before, corner, after}
				slices.Sort(triangle[:])
				out = append(out, triangle)
				left = slices.Delete(left, at, at+1)
				continue cutting
			}
		}
		break
	}
	slices.SortFunc(out, func(t, u [3]int) int { return slices.Compare(t[:], u[:]) })
	return out
}

// IsDivision reports whether a list of triangles is a triangulation.
func IsDivision(wall [][2]int64, l [][3]int) bool {
	return Check(wall) == api.OK && isDivision(wall, l)
}

func isDivision(wall [][2]int64, l [][3]int) bool {
	return len(l) == len(wall)-2 && listed(len(wall), l) && connected(l, sightsOf(wall).join) && tiled(wall, l)
}

// listed reports whether triangles of corners rise, each of them and their list.
func listed(corners int, l [][3]int) bool {
	for i, t := range l {
		if t[0] < 0 || t[0] >= t[1] || t[1] >= t[2] || t[2] >= corners {
			return false
		}
		if i > 0 && slices.Compare(l[i-1][:], t[:]) >= 0 {
			return false
		}
	}
	return true
}

func connected(l [][3]int, joined func(i, j int) bool) bool {
	for _, t := range l {
		if !joined(t[0], t[1]) || !joined(t[1], t[2]) || !joined(t[0], t[2]) {
			return false
		}
	}
	return true
}

// tiled reports whether triangles within the gallery are together all of it, and no two of them overlap.
func tiled(wall [][2]int64, l [][3]int) bool {
	rest := area(wall)
	for i, t := range l {
		inner := trace(wall, t)
		for _, u := range l[:i] {
			if other := trace(wall, u); !apart(inner, other) && !apart(other, inner) {
				return false
			}
		}
		rest -= area(inner)
	}
	return rest == 0
}

// trace returns the wall around a triangle within the gallery: its corners come around it as they come around the gallery.
func trace(wall [][2]int64, t [3]int) [][2]int64 {
	return [][2]int64{wall[t[0]], wall[t[1]], wall[t[2]]}
}

// apart reports whether one of a triangle's sides has all of another triangle on its other side.
func apart(triangle, other [][2]int64) bool {
	for s := range sides(triangle) {
		if s.turn(other[0]) <= 0 && s.turn(other[1]) <= 0 && s.turn(other[2]) <= 0 {
			return true
		}
	}
	return false
}

// Count returns how many triangulations there are.
func Count(wall [][2]int64) (int64, api.Errno) {
	if e := Check(wall); e != api.OK {
		return 0, e
	}
	if len(wall) > maxCount {
		return 0, api.ErrLong
	}
	return count(len(wall), sightsOf(wall).join), api.OK
}

// count counts the triangulations of the parts from corner i to corner j, those of few corners first: each has one triangle with these two, and any others behind its two other sides.
func count(corners int, joined func(i, j int) bool) int64 {
	var ways [maxCount][maxCount]int64
	for step := 1; step < corners; step++ {
		for i := range corners - step {
			j := i + step
			if !joined(i, j) {
				continue
			}
			if step == 1 {
				ways[i][j] = 1
			}
			for k := i + 1; k < j; k++ {
				ways[i][j] += ways[i][k] * ways[k][j]
			}
		}
	}
	return ways[0][corners-1]
}
