package span

import (
	"slices"

	"rabbet/api"
	"rabbet/frac"
)

// checkPoint tells what is wrong with a list of points, or with another point of integers.
func checkPoint(points [][]int64, p []int64) api.Errno {
	if e := Check(points); e != api.OK {
		return e
	}
	if len(p) != len(points[0]) {
		return api.ErrShape
	}
	if !inRange(p) {
		return api.ErrSpan
	}
	return api.OK
}

// In returns weights that make p. They and the weight of p itself, which is 1, are not 0 at independent columns of d + 2 numbers alone, so that at most d + 1 of them are not 0.
func In(points [][]int64, p []int64) ([]frac.Rat, bool, api.Errno) {
	if e := checkPoint(points, p); e != api.OK {
		return nil, false, e
	}
	weights, _, ok, e := Common(points, [][]int64{p})
	return weights, ok, e
}

// Wall returns a wall between the points and p.
func Wall(points [][]int64, p []int64) (Half, bool, api.Errno) {
	if e := checkPoint(points, p); e != api.OK {
		return Half{}, false, e
	}
	return Between(points, [][]int64{p})
}

// Common returns weights with which two lists make the same point.
func Common(a, b [][]int64) ([]frac.Rat, []frac.Rat, bool, api.Errno) {
	if e := checkLists(a, b); e != api.OK {
		return nil, nil, false, e
	}
	weights, e := safely(meeting(exact(a...), exact(b...)).plain)
	if e != api.OK {
		return nil, nil, false, api.OK
	}
	return slices.Clone(weights[:len(a)]), slices.Clone(weights[len(a):]), true, api.OK
}

// Between returns a wall between two lists. What refuses their meeting is the wall's Normal n, a number c, and -1: n x + c is at least 0 for the points x of a, and at most -1 for those of b.
func Between(a, b [][]int64) (Half, bool, api.Errno) {
	if e := checkLists(a, b); e != api.OK {
		return Half{}, false, e
	}
	refusal, e := safely(meeting(exact(a...), exact(b...)).refusal)
	if e != api.OK {
		return Half{}, false, api.OK
	}
	d := len(a[0])
	return Half{slices.Clone(refusal[:d]), refusal[d].Neg()}, true, api.OK
}

// IsWall reports whether a half-space is a wall between points and others.
func IsWall(points, others [][]int64, h Half) bool {
	is, _ := safely(func() (bool, api.Errno) {
		if e := checkLists(points, others); e != api.OK || len(h.Normal) != len(points[0]) {
			return false, e
		}
		keepShort(maxDecimals, h.numbers()...)
		missing := func(p point) bool { return !h.contains(p) }
		return !slices.ContainsFunc(exact(points...), missing) && !slices.ContainsFunc(exact(others...), h.contains), api.OK
	})
	return is
}

// Makes reports whether weights make p.
func Makes(points [][]int64, weights, p []frac.Rat) bool {
	is, _ := safely(func() (bool, api.Errno) {
		if e := Check(points); e != api.OK || len(weights) != len(points) || len(p) != len(points[0]) {
			return false, e
		}
		keepShort(maxDecimals, weights...)
		keepShort(maxDecimals, p...)
		made := combine(lifted(exact(points...)...), weights)
		return !slices.ContainsFunc(weights, negative) && isBlank(made.to(lifted(p)[0])), api.OK
	})
	return is
}
