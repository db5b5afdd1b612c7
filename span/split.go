package span

import (
	"iter"
	"slices"

	"rabbet/api"
	"rabbet/frac"
)

// Radon returns a split of d + 2 points into two parts, and its centre.
func Radon(points [][]int64) ([]int, []frac.Rat, api.Errno) {
	if e := Check(points); e != api.OK {
		return nil, nil, e
	}
	if len(points) != len(points[0])+2 {
		return nil, nil, api.ErrShape
	}
	return firstSplit(exact(points...), 2)
}

// Tverberg returns a split of 7 points of the plane into three parts, and its centre.
func Tverberg(points [][]int64) ([]int, []frac.Rat, api.Errno) {
	if e := checkPlane(points); e != api.OK {
		return nil, nil, e
	}
	if len(points) != 7 {
		return nil, nil, api.ErrShape
	}
	return firstSplit(exact(points...), 3)
}

// parting is a split with its centre.
type parting struct {
	split  []int
	centre point
}

// firstSplit tries all ways to divide points, and returns the first one in which the hulls of the parts have a point in common. There always is one for as many points as it is called with (Radon, Tverberg).
func firstSplit(points []point, parts int) ([]int, []frac.Rat, api.Errno) {
	found, e := safely(func() (parting, api.Errno) {
	trying:
		for split := range divisions(len(points), parts) {
			groups := divided(points, split, parts)
			for _, group := range groups {
				if len(group) == 0 {
					continue trying
				}
			}
			if weights, e := meeting(groups...).plain(); e == api.OK {
				return parting{split, combine(groups[0], weights)}, api.OK
			}
		}
		return parting{}, api.ErrNone
	})
	return found.split, found.centre, e
}

// divisions yields lists of numbers below parts, in which no number comes before a lesser one: all ways to divide things, but for the order of the parts.
func divisions(length, parts int) iter.Seq[[]int] {
	return func(yield func([]int) bool) {
		var extend func(list []int, used int) bool
		extend = func(list []int, used int) bool {
			if len(list) == length {
				return yield(slices.Clone(list))
			}
			for number := range min(used+1, parts) {
				if !extend(append(list, number), max(used, number+1)) {
					return false
				}
			}
			return true
		}
		extend(nil, 0)
	}
}

// divided returns the points of each part.
func divided(points []point, split []int, parts int) [][]point {
	groups := make([][]point, parts+1) // and those of no part
	for i, number := range split {
		groups[number] = append(groups[number], points[i])
	}
	return groups[:parts]
}

// IsSplit reports whether a list of numbers is a split with a centre.
func IsSplit(points [][]int64, split []int, parts int, centre []frac.Rat) bool {
	is, _ := safely(func() (bool, api.Errno) {
		if e := Check(points); e != api.OK || len(centre) != len(points[0]) {
			return false, e
		}
		if parts < 1 || parts > maxItems || len(split) != len(points) || slices.Min(split) < 0 || slices.Max(split) > parts {
			return false, api.OK
		}
		keepShort(maxDecimalsCentre, centre...)
		for _, group := range divided(exact(points...), split, parts) {
			if len(group) == 0 {
				return false, api.OK
			}
			if _, e := meeting(group, []point{centre}).plain(); e != api.OK {
				return false, api.OK
			}
		}
		return true, api.OK
	})
	return is
}
