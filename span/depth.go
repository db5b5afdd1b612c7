package span

import (
	"iter"

	"rabbet/api"
	"rabbet/frac"
)

// checkPlane tells what is wrong with a list of points of the plane.
func checkPlane(points [][]int64) api.Errno {
	if e := Check(points); e != api.OK {
		return e
	}
	if len(points[0]) != 2 {
		return api.ErrShape
	}
	return api.OK
}

// Depth returns the depth of p.
func Depth(points [][]int64, p []frac.Rat) (int, api.Errno) {
	return safely(func() (int, api.Errno) {
		if e := checkPlane(points); e != api.OK {
			return 0, e
		}
		if len(p) != 2 {
			return 0, api.ErrShape
		}
		keepShort(maxDecimalsCentre, p...)
		return depth(exact(points...), p), api.OK
	})
}

// across is above 0 if the way v is on the left of the way u, and 0 if both are on a line.
func across(u, v point) frac.Rat {
	return dot(u, point{v[1], v[0].Neg()})
}

// depth counts the points that a half-plane has in any case, as they are where p is, and the fewest others. A half-plane with the fewest can be turned to the right until its edge comes to a point. One of the points there is new to it: if all were its own, it would lose them when it is turned further. On the way from p to this one, the half-plane has just what is on the left, and what is behind.
func depth(points []point, p point) int {
	var ways []point
	for _, q := range points {
		if way := p.to(q); !isBlank(way) {
			ways = append(ways, way)
		}
	}
	fewest := len(ways)
	for _, ahead := range ways {
		count := 0
		for _, way := range ways {
			turn := across(ahead, way).Sign()
			if turn > 0 || turn == 0 && dot(ahead, way).Sign() < 0 {
				count++
			}
		}
		fewest = min(fewest, count)
	}
	return len(points) - len(ways) + fewest
}

// Centre returns a centre point. There always is one (Rado), and then one of the crossings is one, too.
func Centre(points [][]int64) ([]frac.Rat, api.Errno) {
	if e := checkPlane(points); e != api.OK {
		return nil, e
	}
	return safely(func() ([]frac.Rat, api.Errno) {
		list := exact(points...)
		for p := range crossings(list) {
			if 3*depth(list, p) >= len(list) {
				return p, api.OK
			}
		}
		return nil, api.ErrNone
	})
}

// line is the line through a point in the direction of a way, which is not blank.
type line struct {
	at, way point
}

// linesOf returns the lines through any two points that are not the same.
func linesOf(points []point) []line {
	var out []line
	for i, q := range points {
		for _, p := range points[:i] {
			if way := p.to(q); !isBlank(way) {
				out = append(out, line{p, way})
			}
		}
	}
	return out
}

// crossing returns the point that two lines have in common, or false if they are parallel.
func (l line) crossing(m line) (point, bool) {
	turn := across(l.way, m.way)
	if turn.Sign() == 0 {
		return nil, false
	}
	share := kept(across(l.at.to(m.at), m.way).Quo(turn))
	return combine([]point{l.at, l.way}, []frac.Rat{frac.Of(1), share}), true
}

// crossings yields points, and those in which two lines through two of them cross. The centre points are what is common to the hulls of all lists of more than two thirds of the points, a polygon, or a segment or a point; each of its corners is a corner of one of these hulls, or on sides of two of them.
func crossings(points []point) iter.Seq[point] {
	return func(yield func(point) bool) {
		for _, p := range points {
			if !yield(p) {
				return
			}
		}
		lines := linesOf(points)
		for i, l := range lines {
			for _, m := range lines[:i] {
				if p, ok := l.crossing(m); ok && !yield(p) {
					return
				}
			}
		}
	}
}
