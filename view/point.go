package view

import (
	"iter"

	"rabbet/frac"
)

func dot(p, q Triple) frac.Rat {
	return sum(times(p[0], q[0]), times(p[1], q[1]), times(p[2], q[2]))
}

func on(p, l Triple) bool {
	return dot(p, l).Sign() == 0
}

// minors yields the minors of the matrix with the rows p and q, each with the column that it leaves out. The columns go around, which takes care of the signs.
func minors(p, q Triple) iter.Seq2[int, frac.Rat] {
	return func(yield func(int, frac.Rat) bool) {
		for i := range p {
			j, k := (i+1)%3, (i+2)%3
			if !yield(i, minus(times(p[j], q[k]), times(p[k], q[j]))) {
				return
			}
		}
	}
}

// cross returns the line through two points, or the point on two lines; 0, 0, 0 if they are the same.
func cross(p, q Triple) Triple {
	var out Triple
	for i, minor := range minors(p, q) {
		out[i] = minor
	}
	return out
}

func same(p, q Triple) bool {
	for _, minor := range minors(p, q) {
		if minor.Sign() != 0 {
			return false
		}
	}
	return true
}

// repeated reports whether two of the points are the same.
func repeated(points ...Triple) bool {
	for i, p := range points {
		for _, q := range points[:i] {
			if same(p, q) {
				return true
			}
		}
	}
	return false
}

// general reports whether no three of the points are collinear.
func general(points ...Triple) bool {
	for i, p := range points {
		for j, q := range points[:i] {
			line := cross(p, q)
			for _, r := range points[:j] {
				if on(r, line) {
					return false
				}
			}
		}
	}
	return true
}

// mixed returns m p + n q.
func mixed(m frac.Rat, p Triple, n frac.Rat, q Triple) Triple {
	var out Triple
	for i := range out {
		out[i] = sum(times(m, p[i]), times(n, q[i]))
	}
	return out
}
