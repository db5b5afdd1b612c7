package span

import (
	"slices"

	"rabbet/frac"
)

// point is a point, or the way from one point to another.
type point []frac.Rat

// exact returns points of integers as points of fractions.
func exact(list ...[]int64) []point {
	out := make([]point, 0, len(list))
	for _, numbers := range list {
		p := make(point, 0, len(numbers))
		for _, n := range numbers {
			p = append(p, frac.Of(n))
		}
		out = append(out, p)
	}
	return out
}

func (p point) plus(q point) point {
	out := make(point, 0, len(p))
	for i, x := range p {
		out = append(out, kept(x.Add(q[i])))
	}
	return out
}

func (p point) times(factor frac.Rat) point {
	out := make(point, 0, len(p))
	for _, x := range p {
		out = append(out, kept(x.Mul(factor)))
	}
	return out
}

// to returns the way from p to q.
func (p point) to(q point) point {
	return q.plus(p.times(frac.Of(-1)))
}

// lifted returns points with a 1 behind their numbers, so that where multiples of them add up to another one, their factors add up to 1.
func lifted(list ...point) []point {
	out := make([]point, 0, len(list))
	for _, p := range list {
		out = append(out, append(slices.Clone(p), frac.Of(1)))
	}
	return out
}
