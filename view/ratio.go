package view

import (
	"rabbet/api"
	"rabbet/frac"
)

// extended is a fraction, or infinite.
type extended struct {
	value    frac.Rat
	infinite bool
}

// Ratio returns the ratio of four collinear points, or true if it is infinite.
func Ratio(p, q, r, s Triple) (frac.Rat, bool, api.Errno) {
	out, e := answer(func() (extended, api.Errno) {
		a := axis{p, q, cross(p, q)}
		if !a.measures(r) || !on(s, a.line) {
			return extended{}, api.ErrFlat
		}
		m, n := a.shares(r)
		ofP, ofQ := a.shares(s)
		if ofQ.Sign() == 0 {
			return extended{infinite: true}, api.OK
		}
		return extended{value: over(times(ofP, n), times(m, ofQ))}, api.OK
	}, &p, &q, &r, &s)
	return out.value, out.infinite, e
}

// Fourth returns the point that has a ratio with three other ones.
func Fourth(p, q, r Triple, ratio frac.Rat) (Triple, api.Errno) {
	return answer(func() (Triple, api.Errno) {
		a := axis{p, q, cross(p, q)}
		if !a.measures(r) {
			return Triple{}, api.ErrFlat
		}
		keepShort(ratio)
		m, n := a.shares(r)
		return normal(mixed(times(ratio, m), p, n, q))
	}, &p, &q, &r)
}

// axis is two points and the line through them.
type axis struct {
	p, q, line Triple
}

// shares returns m and n such that m p + n q is r, which is on the line, times some number that is the same for all r, and not 0: crossed with q, r is m times the line, and p crossed with r is n times the line.
func (a axis) shares(r Triple) (m, n frac.Rat) {
	return dot(cross(r, a.q), a.line), dot(cross(a.p, r), a.line)
}

// measures reports whether r is a third point on the line. (If the points of the axis are the same, there is no line, and none has shares.)
func (a axis) measures(r Triple) bool {
	m, n := a.shares(r)
	return on(r, a.line) && m.Sign() != 0 && n.Sign() != 0
}
