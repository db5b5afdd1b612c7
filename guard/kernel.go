package guard

import (
	"iter"
	"slices"

	"rabbet/api"
	"rabbet/frac"
)

// maxDecimals is the greatest number of digits that a numerator or a denominator of an argument has.
const maxDecimals = 1000

func tooLong(r frac.Rat) bool {
	return decimals(r.Num()) > maxDecimals || decimals(r.Den()) > maxDecimals
}

func decimals(n frac.Int) int {
	text := n.String()
	if n.Sign() < 0 {
		return len(text) - 1
	}
	return len(text)
}

// terms is what a side's lean is made of: the multiples of a point's two numbers, and of 1, that add up to it.
type terms [3]int64

func (s side) terms() terms {
	x, y := s.from[1]-s.to[1], s.to[0]-s.from[0]
	return terms{x, y, -x*s.from[0] - y*s.from[1]}
}

// total adds up three products. None of them can be too large: fractions have few digits here.
func total(factors [3]int64, numbers [3]frac.Rat) frac.Rat {
	var sum frac.Rat
	for i, x := range numbers {
		product, _ := frac.Of(factors[i]).Mul(x)
		sum, _ = sum.Add(product)
	}
	return sum
}

func (t terms) lean(x, y frac.Rat) frac.Rat {
	return total(t, [3]frac.Rat{x, y, frac.Of(1)})
}

// Kernel returns the corners of the kernel.
func Kernel(wall [][2]int64) ([][2]frac.Rat, api.Errno) {
	if e := Check(wall); e != api.OK {
		return nil, e
	}
	outline := frame()
	cut := func(t terms) {
		outline = part(outline, func(p [2]frac.Rat) frac.Rat { return t.lean(p[0], p[1]) }, mixed)
	}
	for s := range sides(wall) {
		cut(s.terms())
	}
	if len(outline) == 0 {
		return nil, api.ErrNone
	}
	return arranged(outline), api.OK
}

// frame is the outline around all points that there are.
func frame() [][2]frac.Rat {
	low, high := frac.Of(-maxNumber), frac.Of(maxNumber)
	return [][2]frac.Rat{{low, low}, {high, low}, {high, high}, {low, high}}
}

// part returns the outline of the part of a convex outline where a measure is not below 0. The outline of a segment goes there and back, so that it may contain its ends more than once.
func part[P any](outline []P, measure func(P) frac.Rat, mix func(p, q P, m, n frac.Rat) P) []P {
	var out []P
	for p, q := range around(outline) {
		m, n := measure(p), measure(q)
		if m.Sign() >= 0 {
			out = append(out, p)
		}
		if m.Sign()*n.Sign() < 0 {
			out = append(out, mix(p, q, m, n))
		}
	}
	return out
}

// mixed returns the point between p and q where a measure is 0 that is m at p and n at q.
func mixed(p, q [2]frac.Rat, m, n frac.Rat) [2]frac.Rat {
	width, _ := m.Sub(n)
	share, _ := m.Quo(width)
	for i := range p {
		way, _ := q[i].Sub(p[i])
		way, _ = way.Mul(share)
		p[i], _ = p[i].Add(way)
	}
	return p
}

// arranged returns the different points of an outline, from the least one on.
func arranged(outline [][2]frac.Rat) [][2]frac.Rat {
	var out [][2]frac.Rat
	for _, p := range outline {
		if !slices.ContainsFunc(out, func(q [2]frac.Rat) bool { return comparePoints(p, q) == 0 }) {
			out = append(out, p)
		}
	}
	least := slices.MinFunc(out, comparePoints)
	at := slices.IndexFunc(out, func(p [2]frac.Rat) bool { return comparePoints(p, least) == 0 })
	return slices.Concat(out[at:], out[:at])
}

func comparePoints(p, q [2]frac.Rat) int {
	return slices.CompareFunc(p[:], q[:], frac.Rat.Cmp)
}

// InKernel reports whether the point with two numbers is in the kernel.
func InKernel(wall [][2]int64, x, y frac.Rat) (bool, api.Errno) {
	if e := Check(wall); e != api.OK {
		return false, e
	}
	if tooLong(x) || tooLong(y) {
		return false, api.ErrArg
	}
	for s := range sides(wall) {
		if s.terms().lean(x, y).Sign() < 0 {
			return false, api.OK
		}
	}
	return true, api.OK
}

// Refuse returns a refusal of the kernel if it is empty. Three sides are enough for one (Helly), and any three that have one have just that of their balance; if two are enough, a third one whose weight is 0 is across them.
func Refuse(wall [][2]int64) ([]frac.Rat, bool) {
	if _, e := Kernel(wall); e != api.ErrNone {
		return nil, false
	}
	all := slices.Collect(sides(wall))
	for at := range triples(len(all)) {
		three := [3]terms{all[at[0]].terms(), all[at[1]].terms(), all[at[2]].terms()}
		if weights, ok := balance(three); ok && refuse(three, weights) {
			out := make([]frac.Rat, len(wall))
			for i, weight := range weights {
				out[at[i]] = weight
			}
			return out, true
		}
	}
	return nil, false
}

// triples yields three different numbers below n, in each way but for their order.
func triples(n int) iter.Seq[[3]int] {
	return func(yield func([3]int) bool) {
		for i := range n {
			for j := range i {
				for k := range j {
					if !yield([3]int{i, j, k}) {
						return
					}
				}
			}
		}
	}
}

// balance returns the weights, none below 0, with which three leans add up to the same number for all points, or false if there are none. But for a common factor, there are no others, unless the three sides are parallel: areas between the directions of two sides.
func balance(three [3]terms) ([3]frac.Rat, bool) {
	a, b, c := across(three[1], three[2]), across(three[2], three[0]), across(three[0], three[1])
	if min(a, b, c) < 0 {
		a, b, c = -a, -b, -c
	}
	return [3]frac.Rat{frac.Of(a), frac.Of(b), frac.Of(c)}, min(a, b, c) >= 0
}

func across(t, u terms) int64 {
	return t[0]*u[1] - t[1]*u[0]
}

// refuse reports whether three sides with weights refuse the kernel.
func refuse(three [3]terms, weights [3]frac.Rat) bool {
	var sums [3]frac.Rat
	for i := range sums {
		sums[i] = total([3]int64{three[0][i], three[1][i], three[2][i]}, weights)
	}
	negative := func(w frac.Rat) bool { return w.Sign() < 0 }
	return !slices.ContainsFunc(weights[:], negative) && sums[0].Sign() == 0 && sums[1].Sign() == 0 && negative(sums[2])
}

// Refuses reports whether weights are a refusal of the kernel.
func Refuses(wall [][2]int64, weights []frac.Rat) bool {
	if Check(wall) != api.OK || len(weights) != len(wall) || slices.ContainsFunc(weights, tooLong) {
		return false
	}
	var three [3]terms
	var chosen [3]frac.Rat
	used := 0
	for i, s := range slices.Collect(sides(wall)) {
		if weights[i].Sign() == 0 {
			continue
		}
		if used == len(three) {
			return false
		}
		three[used], chosen[used] = s.terms(), weights[i]
		used++
	}
	return refuse(three, chosen)
}
