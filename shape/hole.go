package shape

import (
	"slices"

	"rabbet/api"
	"rabbet/frac"
)

// Homology returns how many independent cycles there are that no boundaries are made of, and the orders of the others.
func Homology(c [][]int, k int) (int, []frac.Int, api.Errno) {
	if e := checkDimension(c, k); e != api.OK {
		return 0, nil, e
	}
	g := figureOf(c)
	under, over := g.table(k), g.table(k+1)
	var orders []frac.Int
	for i := range over.rank {
		orders = append(orders, size(over.number(i)))
	}
	return len(under.columns) - under.rank - over.rank, chained(orders), api.OK
}

// chained returns numbers of which each divides the next one, such that the cyclic groups of these orders have the same sum as those of the given ones. Groups with one element are left out.
func chained(orders []frac.Int) []frac.Int {
	var out []frac.Int
	for _, n := range orders {
		for i, m := range out {
			out[i] = frac.Gcd(m, n)
			rest, _, _ := m.Div(out[i])
			n, _ = n.Mul(rest)
		}
		out = append(out, n)
	}
	return slices.DeleteFunc(out, func(n frac.Int) bool { return n.Cmp(frac.Whole(1)) == 0 })
}

// Cycle returns a cycle of which no multiple is a boundary. Rows that are 0 throughout make 0 of each boundary, and not of anything else.
func Cycle(c [][]int, k int) ([]frac.Int, bool, api.Errno) {
	if e := checkDimension(c, k); e != api.OK {
		return nil, false, e
	}
	g := figureOf(c)
	under, over := g.table(k), g.table(k+1)
	for _, cycle := range under.columns[under.rank:] {
		for _, row := range over.rows[over.rank:] {
			if dot(row, cycle).Sign() != 0 {
				return cycle, true, api.OK
			}
		}
	}
	return nil, false, api.OK
}
