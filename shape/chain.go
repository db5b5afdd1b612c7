package shape

import (
	"strings"

	"rabbet/api"
	"rabbet/frac"
)

// How many digits an integer has at most.
const (
	maxDigits      = 30 // of a chain
	maxDigitsProof = 1000
)

// lookAt tells what is wrong with a complex, a dimension, or a chain, and returns the complex as a figure.
func lookAt(c [][]int, k int, chain []frac.Int) (figure, api.Errno) {
	if e := checkDimension(c, k); e != api.OK {
		return figure{}, e
	}
	g := figureOf(c)
	if len(chain) != len(g.of(k)) {
		return figure{}, api.ErrShape
	}
	if !areShort(maxDigits, chain...) {
		return figure{}, api.ErrArg
	}
	return g, api.OK
}

func areShort(digits int, numbers ...frac.Int) bool {
	for _, n := range numbers {
		if len(strings.TrimPrefix(n.String(), "-")) > digits {
			return false
		}
	}
	return true
}

// sign returns what a side counts in a boundary.
func sign(index int) frac.Int {
	return frac.Whole(int64(1 - index%2*2))
}

// boundaries returns the boundaries of the faces of dimension k, a column each.
func (g figure) boundaries(k int) [][]frac.Int {
	faces := g.of(k)
	rows := make([][]frac.Int, len(g.of(k-1)))
	for i := range rows {
		rows[i] = make([]frac.Int, len(faces))
	}
	for j, f := range faces {
		for i, side := range f.sides() {
			rows[g.place[side]][j] = sign(i)
		}
	}
	return rows
}

// dot adds up the products of the numbers of two lists.
func dot(a, b []frac.Int) frac.Int {
	sum := make([]frac.Int, 1)
	for i, x := range a {
		addMultiple(sum, x, b[i:i+1])
	}
	return sum[0]
}

// divided returns n divided by m, and whether there is no rest. By 0, only 0 can be divided.
func divided(n, m frac.Int) (frac.Int, bool) {
	quotient, rest, e := n.Div(m)
	if e != api.OK {
		return frac.Int{}, n.Sign() == 0
	}
	return quotient, rest.Sign() == 0
}

// Boundary returns the boundary of a chain.
func Boundary(c [][]int, k int, chain []frac.Int) ([]frac.Int, api.Errno) {
	g, e := lookAt(c, k, chain)
	if e != api.OK {
		return nil, e
	}
	var out []frac.Int
	for _, row := range g.boundaries(k) {
		out = append(out, dot(row, chain))
	}
	return out, api.OK
}

// table returns the boundaries of the faces of dimension k as a diagonal table.
func (g figure) table(k int) table[frac.Int] {
	return diagonal(g.boundaries(k), len(g.of(k)), frac.Whole(1))
}

// denial is a list of integers and a modulus.
type denial struct {
	list    []frac.Int
	modulus frac.Int
}

// settle returns a chain of which a given one is the boundary, and true, or a denial. In a row of the table there is one number at most; it must divide what the row makes of the chain, or else they are the denial.
func (g figure) settle(k int, chain []frac.Int) ([]frac.Int, denial, bool) {
	t := g.table(k + 1)
	out := make([]frac.Int, len(t.columns))
	for i, row := range t.rows {
		quotient, ok := divided(dot(row, chain), t.number(i))
		if !ok {
			return nil, denial{row, size(t.number(i))}, false
		}
		if i < t.rank {
			addMultiple(out, quotient, t.columns[i])
		}
	}
	return out, denial{}, true
}

// Bounds returns a chain whose boundary is the chain.
func Bounds(c [][]int, k int, chain []frac.Int) ([]frac.Int, bool, api.Errno) {
	g, e := lookAt(c, k, chain)
	if e != api.OK {
		return nil, false, e
	}
	over, _, ok := g.settle(k, chain)
	return over, ok, api.OK
}

// Deny returns a denial of the chain.
func Deny(c [][]int, k int, chain []frac.Int) ([]frac.Int, frac.Int, bool, api.Errno) {
	g, e := lookAt(c, k, chain)
	if e != api.OK {
		return nil, frac.Int{}, false, e
	}
	_, d, ok := g.settle(k, chain)
	return d.list, d.modulus, !ok, api.OK
}

// Denies reports whether f and m are a denial of the chain. By 1 nothing is denied, as it divides everything.
func Denies(c [][]int, k int, chain, f []frac.Int, m frac.Int) bool {
	g, e := lookAt(c, k, chain)
	if e != api.OK || len(f) != len(chain) || m.Sign() < 0 || !areShort(maxDigitsProof, m) || !areShort(maxDigitsProof, f...) {
		return false
	}
	sums := make([]frac.Int, len(g.of(k+1)))
	for i, row := range g.boundaries(k + 1) {
		addMultiple(sums, f[i], row)
	}
	for _, sum := range sums {
		if _, ok := divided(sum, m); !ok {
			return false
		}
	}
	_, ok := divided(dot(f, chain), m)
	return !ok
}
