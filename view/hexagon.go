package view

import "rabbet/api"

// Hexagon returns the line on which the opposite sides of a hexagon meet.
func Hexagon(points [6]Triple) (Triple, api.Errno) {
	return answer(func() (Triple, api.Errno) {
		if repeated(points[:]...) {
			return Triple{}, api.ErrFlat
		}
		var meets [3]Triple
		for i := range meets {
			side := cross(points[i], points[i+1])
			opposite := cross(points[i+3], points[(i+4)%6])
			if same(side, opposite) {
				return Triple{}, api.ErrFlat
			}
			meets[i] = cross(side, opposite)
		}
		line := cross(meets[0], meets[1])
		if same(meets[0], meets[1]) {
			line = cross(meets[1], meets[2])
		}
		if !on(meets[2], line) {
			return Triple{}, api.ErrFlat
		}
		return normal(line)
	}, each(points[:]...)...)
}
