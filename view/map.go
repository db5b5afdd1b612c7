package view

import (
	"slices"

	"rabbet/api"
	"rabbet/frac"
)

// CheckMap tells what is wrong with a map.
func CheckMap(m Map) api.Errno {
	_, e := answer(func() (bool, api.Errno) {
		return true, api.OK
	}, &m)
	return e
}

// FromFour returns the map that takes four points to four others.
func FromFour(from, to [4]Triple) (Map, api.Errno) {
	return answer(func() (Map, api.Errno) {
		if !general(from[:]...) || !general(to[:]...) {
			return Map{}, api.ErrFlat
		}
		return normal(product(frame(to), inverse(frame(from))))
	}, each(slices.Concat(from[:], to[:])...)...)
}

// Apply returns the point to which a map takes p.
func Apply(m Map, p Triple) (Triple, api.Errno) {
	return answer(func() (Triple, api.Errno) {
		return normal(image(m, p))
	}, &m, &p)
}

// ApplyLine returns the line to whose points a map takes those of l. As products of points and lines stay as they are, lines are taken along by the inverse, with rows and columns exchanged.
func ApplyLine(m Map, l Triple) (Triple, api.Errno) {
	return answer(func() (Triple, api.Errno) {
		return normal(image(cofactors(m), l))
	}, &m, &l)
}

// After returns the map that does n, then m.
func After(m, n Map) (Map, api.Errno) {
	return answer(func() (Map, api.Errno) {
		return normal(product(m, n))
	}, &m, &n)
}

// Back returns the map that undoes m.
func Back(m Map) (Map, api.Errno) {
	return answer(func() (Map, api.Errno) {
		return normal(inverse(m))
	}, &m)
}

func image(m Map, p Triple) Triple {
	return Triple{dot(m[0], p), dot(m[1], p), dot(m[2], p)}
}

// exchanged returns the matrix with rows and columns exchanged.
func exchanged(m Map) Map {
	var out Map
	for i, row := range m {
		for j, x := range row {
			out[j][i] = x
		}
	}
	return out
}

func product(m, n Map) Map {
	var out Map
	for j, column := range exchanged(n) {
		for i, row := range m {
			out[i][j] = dot(row, column)
		}
	}
	return out
}

// cofactors returns the matrix whose rows are the crosses of the other two rows. With rows and columns exchanged, it is the inverse times the determinant.
func cofactors(m Map) Map {
	return Map{cross(m[1], m[2]), cross(m[2], m[0]), cross(m[0], m[1])}
}

func determinant(m Map) frac.Rat {
	return dot(cross(m[0], m[1]), m[2])
}

// inverse returns the map that undoes m, times a number.
func inverse(m Map) Map {
	return exchanged(cofactors(m))
}

// frame returns the map that takes 1, 0, 0 and 0, 1, 0 and 0, 0, 1 and 1, 1, 1 to four points in general position: its columns are multiples of the first three that add up to the last one.
func frame(points [4]Triple) Map {
	rows := Map{points[0], points[1], points[2]}
	for i, factor := range image(cofactors(rows), points[3]) {
		for j, x := range rows[i] {
			rows[i][j] = times(factor, x)
		}
	}
	return exchanged(rows)
}
