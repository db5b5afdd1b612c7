package plan

import (
	"iter"

	"rabbet/api"
	"rabbet/perm"
)

// pairs is a set of pairs of rooms.
type pairs map[[2]int]bool

// hasAll reports whether all of a list are in the set.
func (p pairs) hasAll(list ...[2]int) bool {
	for _, pair := range list {
		if !p[pair] {
			return false
		}
	}
	return true
}

// related returns the pairs of which the former room is left of, or above, the latter.
func related(x Plan, d direction) pairs {
	out := pairs{}
	for a := range x {
		for b := range following(x, a, d) {
			out[[2]int{a, b}] = true
		}
	}
	return out
}

// following yields the rooms that the room a is left of, or above, rising.
//
// Rooms border on the two sides of one wall just if one ends where the other begins, as there is only one wall at a position: the one through the diagonal's point there. (A side that does not reach that point touches one of a room across that does: that room has a cell of the diagonal, too.) For the same reason the one that ends has the lesser number.
func following(x Plan, a int, d direction) iter.Seq[int] {
	return func(yield func(int) bool) {
		var reached [api.MaxPerm + 1]bool // walls, by their positions
		reached[x[a][d+2]] = true
		for b, side := range sides(x, d) {
			if !reached[side[0]] {
				continue
			}
			reached[side[1]] = true
			if !yield(b) {
				return
			}
		}
	}
}

// Left reports whether the room a is left of b.
func Left(x Plan, a, b int) (bool, api.Errno) {
	return precedes(x, a, b, rightward)
}

// Above reports whether the room a is above b.
func Above(x Plan, a, b int) (bool, api.Errno) {
	return precedes(x, a, b, downward)
}

func precedes(x Plan, a, b int, d direction) (bool, api.Errno) {
	if e := Check(x); e != api.OK {
		return false, e
	}
	if min(a, b) < 0 || max(a, b) >= len(x) {
		return false, api.ErrArg
	}
	for later := range following(x, a, d) {
		if later == b {
			return true, api.OK
		}
	}
	return false, api.OK
}

// Pinwheel returns a pinwheel. Rooms of a plan are one just if the Baxter permutation has them in the order of one of two patterns, as it inverts the pairs of which one room is above the other.
func Pinwheel(x Plan) ([4]int, bool, api.Errno) {
	if e := Check(x); e != api.OK {
		return [4]int{}, false, e
	}
	order := baxter(x)
	for _, pattern := range [][]int{{1, 3, 0, 2}, {2, 0, 3, 1}} {
		at, ok, e := perm.Find(order, pattern)
		if !ok || e != api.OK {
			continue
		}
		var rooms [4]int
		for i, v := range pattern {
			rooms[v] = order[at[i]]
		}
		return rooms, true, api.OK
	}
	return [4]int{}, false, api.OK
}

// IsPinwheel reports whether rooms are a pinwheel.
func IsPinwheel(x Plan, rooms [4]int) bool {
	if Check(x) != api.OK {
		return false
	}
	left, above := related(x, rightward), related(x, downward)
	return turns(rooms, above, left) || turns(rooms, left, above)
}

// turns reports whether rooms are a pinwheel in which the first one precedes the second one in the given way.
func turns(rooms [4]int, given, other pairs) bool {
	a, b, c, d := rooms[0], rooms[1], rooms[2], rooms[3]
	return given.hasAll([2]int{a, b}, [2]int{a, d}, [2]int{c, d}) && other.hasAll([2]int{b, c}, [2]int{b, d}, [2]int{a, c})
}
