package view

import (
	"rabbet/api"
	"rabbet/frac"
)

// CheckConic tells what is wrong with a conic.
func CheckConic(c Conic) api.Errno {
	_, e := answer(func() (bool, api.Errno) {
		return true, api.OK
	}, &c)
	return e
}

// Through returns the conic that five points are on.
func Through(points [5]Triple) (Conic, api.Errno) {
	return answer(func() (Conic, api.Errno) {
		return normal(through(points))
	}, each(points[:]...)...)
}

// OnConic reports whether a point is on a conic.
func OnConic(c Conic, p Triple) (bool, api.Errno) {
	return answer(func() (bool, api.Errno) {
		return on(p, image(matrix(c), p)), api.OK
	}, &c, &p)
}

// Smooth reports whether a conic is smooth.
func Smooth(c Conic) (bool, api.Errno) {
	return answer(func() (bool, api.Errno) {
		return smooth(matrix(c)), api.OK
	}, &c)
}

// Polar returns the polar of a point.
func Polar(c Conic, p Triple) (Triple, api.Errno) {
	return answer(func() (Triple, api.Errno) {
		return normal(image(matrix(c), p))
	}, &c, &p)
}

// Pole returns the pole of a line.
func Pole(c Conic, l Triple) (Triple, api.Errno) {
	return answer(func() (Triple, api.Errno) {
		m := matrix(c)
		if !smooth(m) {
			return Triple{}, api.ErrFlat
		}
		return normal(image(inverse(m), l))
	}, &c, &l)
}

// Second returns the point other than p in which a line through p meets a conic, or p if there is no other one.
func Second(c Conic, p, l Triple) (Triple, api.Errno) {
	return answer(func() (Triple, api.Errno) {
		m := matrix(c)
		polar := image(m, p)
		if !smooth(m) || !on(p, polar) || !on(p, l) {
			return Triple{}, api.ErrFlat
		}
		// A point u p + v q is on c if v is 0, or 2 u times half and v times whole add up to 0.
		q := cross(l, p) // on l, and not p, whose product with itself is not 0
		half, whole := dot(q, polar), dot(q, image(m, q))
		return normal(mixed(whole, p, sum(half, half).Neg(), q))
	}, &c, &p, &l)
}

// Moved returns the conic on which are the points to which a map takes those of c.
func Moved(c Conic, m Map) (Conic, api.Errno) {
	return answer(func() (Conic, api.Errno) {
		undo := inverse(m)
		return normal(conicOf(product(product(exchanged(undo), matrix(c)), undo)))
	}, &c, &m)
}

// matrix returns the matrix of a conic.
func matrix(c Conic) Map {
	return Map{
		{sum(c[0], c[0]), c[5], c[4]},
		{c[5], sum(c[1], c[1]), c[3]},
		{c[4], c[3], sum(c[2], c[2])},
	}
}

// conicOf returns the conic that has a matrix, times 2.
func conicOf(m Map) Conic {
	return Conic{
		m[0][0], m[1][1], m[2][2],
		sum(m[1][2], m[1][2]), sum(m[0][2], m[0][2]), sum(m[0][1], m[0][1]),
	}
}

// smooth reports whether the conic of a matrix is smooth.
func smooth(m Map) bool {
	return determinant(m).Sign() != 0
}

// pair is two lines, which are a conic, too.
type pair [2]Triple

func (l pair) conic() Conic {
	a, b := l[0], l[1]
	both := func(i, j int) frac.Rat { return sum(times(a[i], b[j]), times(a[j], b[i])) }
	return Conic{
		times(a[0], b[0]), times(a[1], b[1]), times(a[2], b[2]),
		both(1, 2), both(2, 0), both(0, 1),
	}
}

// at returns what the conic's sum is for a point, which is 0 if the point is on it.
func (l pair) at(p Triple) frac.Rat {
	return times(dot(l[0], p), dot(l[1], p))
}

// through adds up multiples of two pairs of lines through the first four points, such that the last point is on the sum, too. The sum is 0 in all its numbers just if four points are collinear, or two the same.
func through(points [5]Triple) Conic {
	p, q, r, s, last := points[0], points[1], points[2], points[3], points[4]
	one := pair{cross(p, q), cross(r, s)}
	other := pair{cross(p, r), cross(q, s)}
	m, n := other.at(last), one.at(last)
	out, more := one.conic(), other.conic()
	for i := range out {
		out[i] = minus(times(m, out[i]), times(n, more[i]))
	}
	return out
}
