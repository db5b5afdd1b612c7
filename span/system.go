package span

import (
	"rabbet/api"
	"rabbet/frac"
)

// system is equations of unknowns that may not be negative. The last one adds up to 1, all others add up to 0.
type system struct {
	rows [][]frac.Rat
	b    []frac.Rat
}

// newSystem returns the system with these columns, one for each unknown.
func newSystem(columns []point) system {
	height := len(columns[0])
	s := system{make([][]frac.Rat, height), make([]frac.Rat, height)}
	for _, column := range columns {
		for i, x := range column {
			s.rows[i] = append(s.rows[i], x)
		}
	}
	s.b[height-1] = frac.Of(1)
	return s
}

// plain returns a solution that is nowhere negative, and not 0 at independent columns alone, or ErrNone.
func (s system) plain() ([]frac.Rat, api.Errno) {
	return frac.Plain(s.rows, s.b)
}

// refusal returns numbers for the equations, the last one -1, with which no column adds up to less than 0, or ErrNone if there is a plain solution.
func (s system) refusal() ([]frac.Rat, api.Errno) {
	w, ok := frac.Refuse(s.rows, s.b)
	if !ok {
		return nil, api.ErrNone
	}
	size := w[len(w)-1].Neg() // above 0, as it refuses the last equation
	for i, x := range w {
		w[i] = kept(x.Quo(size))
	}
	return w, api.OK
}

// meeting returns the system of the weights, one list after the other, with which all lists of points make the same one. Each list is held against the next one in all numbers of its points, and the last one against 1 in the sum of its weights.
func meeting(lists ...[]point) system {
	var columns []point
	last := len(lists) - 1
	for i, list := range lists {
		for _, p := range lifted(list...) {
			var column point
			for j := range last {
				column = append(column, p.times(held(i, j))...)
			}
			columns = append(columns, append(column, held(i, last)))
		}
	}
	return newSystem(columns)
}

// held returns what list i counts where list j is held against the next one.
func held(i, j int) frac.Rat {
	switch i {
	case j:
		return frac.Of(1)
	case j + 1:
		return frac.Of(-1)
	}
	return frac.Of(0)
}

// against returns the system whose plain solutions are refusals of half-spaces. The numbers that refuse it are those of a point in all of them, and -1.
func against(halves []Half) system {
	var columns []point
	for _, h := range halves {
		columns = append(columns, h.numbers())
	}
	return newSystem(columns)
}
