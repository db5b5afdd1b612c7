package guard

import "slices"

// middle returns the point between two points, in halves.
func middle(p, q [2]int64) [2]int64 {
	return [2]int64{p[0] + q[0], p[1] + q[1]}
}

// place tells where a point is whose numbers are halves. To its right, there is an odd number of sides if it is inside.
func place(wall [][2]int64, halves [2]int64) int {
	inside := false
	for s := range sides(wall) {
		s = side{middle(s.from, s.from), middle(s.to, s.to)}
		if s.holds(halves) {
			return Border
		}
		starts, ends := s.from[1] > halves[1], s.to[1] > halves[1] // above the point, or not
		if starts != ends && (s.turn(halves) > 0) == ends {
			inside = !inside
		}
	}
	if inside {
		return Inside
	}
	return Outside
}

// stops returns two points and the corners that are on the segment between them, as they come along it, in one direction or the other.
func stops(wall [][2]int64, p, q [2]int64) [][2]int64 {
	out := [][2]int64{p, q}
	for _, corner := range wall {
		if corner != p && corner != q && (side{p, q}).holds(corner) {
			out = append(out, corner)
		}
	}
	slices.SortFunc(out, func(a, b [2]int64) int { return slices.Compare(a[:], b[:]) })
	return out
}

// sees reports whether two points of the gallery see each other. If no side crosses the segment between them, it can leave the gallery at corners alone, so that from one stop to the next one any point tells where all are.
func sees(wall [][2]int64, p, q [2]int64) bool {
	for s := range sides(wall) {
		if s.crosses(side{p, q}) {
			return false
		}
	}
	all := stops(wall, p, q)
	for i, next := range all[1:] {
		if place(wall, middle(all[i], next)) == Outside {
			return false
		}
	}
	return true
}

// sights holds which corners, the lesser index first, see each other without another corner between them.
type sights map[[2]int]bool

func sightsOf(wall [][2]int64) sights {
	out := sights{}
	for j, q := range wall {
		for i, p := range wall[:j] {
			out[[2]int{i, j}] = len(stops(wall, p, q)) == 2 && sees(wall, p, q)
		}
	}
	return out
}

// join reports whether a side of a triangle may be between two corners. (Triangulations have no side with a corner within it, although its ends may see each other: the angles of their triangles add up to those of the wall, so that no triangle can have a straight one.)
func (s sights) join(i, j int) bool {
	return s[[2]int{min(i, j), max(i, j)}]
}
