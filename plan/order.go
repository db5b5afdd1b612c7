package plan

import (
	"slices"

	"rabbet/api"
)

// maxCounted is how many rooms a plan may have for its orders to be counted.
const maxCounted = 12

// Baxter returns the rooms, each after all that are left of it or below it.
func Baxter(x Plan) ([]int, api.Errno) {
	if e := Check(x); e != api.OK {
		return nil, e
	}
	return baxter(x), api.OK
}

// baxter relies on this: of two rooms just one comes before the other, so that a room's place is how many come before it.
func baxter(x Plan) []int {
	left, above := related(x, rightward), related(x, downward)
	out := make([]int, len(x))
	for b := range x {
		before := 0
		for a := range x {
			if left[[2]int{a, b}] || above[[2]int{b, a}] {
				before++
			}
		}
		out[before] = b
	}
	return out
}

// First returns the least permutation whose plan is x: the first room that can be put in, again and again. (There always is one: of the rooms that are missing, that which is the first in the Baxter permutation.)
func First(x Plan) ([]int, api.Errno) {
	if e := Check(x); e != api.OK {
		return nil, e
	}
	var out []int
	s := ground(len(x))
	for range x {
		k := slices.IndexFunc(x, s.takes)
		out = append(out, k)
		s = s.with(x[k])
	}
	return out, api.OK
}

// Count returns how many permutations have the plan x.
func Count(x Plan) (int64, api.Errno) {
	if e := Check(x); e != api.OK {
		return 0, e
	}
	if len(x) > maxCounted {
		return 0, api.ErrLong
	}
	return orders(x), api.OK
}

// orders counts the lists in which each room comes when it can be put in.
func orders(x Plan) int64 {
	found := map[skyline]int64{{}: 1} // how many ways there are to go on from it
	var count func(s skyline) int64
	count = func(s skyline) int64 {
		if ways, ok := found[s]; ok {
			return ways
		}
		var ways int64
		for _, room := range x {
			if s.takes(room) {
				ways += count(s.with(room))
			}
		}
		found[s] = ways
		return ways
	}
	return count(ground(len(x)))
}
