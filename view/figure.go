package view

import (
	"rabbet/api"
	"rabbet/frac"
)

// figure is what may be given to a call: a triple, a map or a conic.
type figure interface {
	fault() api.Errno // what is wrong with it, unless a number is too large, which leaves the calculation
}

// numbered is a pointer to a figure whose numbers can be changed.
type numbered[F any] interface {
	*F
	rows() [][]frac.Rat // its numbers in order, in the figure's own memory
}

func (p *Triple) rows() [][]frac.Rat {
	return [][]frac.Rat{p[:]}
}

func (m *Map) rows() [][]frac.Rat {
	return [][]frac.Rat{m[0][:], m[1][:], m[2][:]}
}

func (c *Conic) rows() [][]frac.Rat {
	return [][]frac.Rat{c[:]}
}

func (p *Triple) fault() api.Errno {
	return fault(p.rows()...)
}

func (m *Map) fault() api.Errno {
	if e := fault(m.rows()...); e != api.OK {
		return e
	}
	if determinant(*m).Sign() == 0 {
		return api.ErrPoint
	}
	return api.OK
}

func (c *Conic) fault() api.Errno {
	return fault(c.rows()...)
}

// fault tells what is wrong with the numbers of any figure.
func fault(rows ...[]frac.Rat) api.Errno {
	if blank(rows...) {
		return api.ErrPoint
	}
	for _, row := range rows {
		for _, x := range row {
			keepShort(x)
		}
	}
	return api.OK
}

// blank reports whether all numbers are 0.
func blank(rows ...[]frac.Rat) bool {
	for _, row := range rows {
		for _, x := range row {
			if x.Sign() != 0 {
				return false
			}
		}
	}
	return true
}

// each returns points one by one, to be looked at.
func each(points ...Triple) []figure {
	var out []figure
	for i := range points {
		out = append(out, &points[i])
	}
	return out
}

// normal returns the same figure with 1 as its first number that is not 0. What is calculated from figures that are not in general position may have no such number, which is ErrFlat.
func normal[F any, P numbered[F]](x F) (F, api.Errno) {
	var first frac.Rat
	for _, row := range P(&x).rows() {
		for i, r := range row {
			if first.Sign() == 0 {
				first = r
			}
			if first.Sign() != 0 {
				row[i] = over(r, first)
			}
		}
	}
	if first.Sign() == 0 {
		var none F
		return none, api.ErrFlat
	}
	return x, api.OK
}
