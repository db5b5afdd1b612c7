package fold

import (
	"slices"

	"rabbet/api"
)

// isFinite reports whether each vertex has all edges.
func isFinite(g Graph) bool {
	for _, next := range g.Next {
		if slices.Contains(next, none) {
			return false
		}
	}
	return true
}

// Index returns the index of the group and true, or 0 and false if it is infinite.
func Index(g Graph) (int, bool, api.Errno) {
	if e := Check(g); e != api.OK {
		return 0, false, e
	}
	if !isFinite(g) {
		return 0, false, api.OK
	}
	return len(g.Next), true, api.OK
}

// Cosets returns, for each vertex, the vertex to which a word leads from it.
func Cosets(g Graph, w string) ([]int, api.Errno) {
	if e := checkBoth(g, w); e != api.OK {
		return nil, e
	}
	if !isFinite(g) {
		return nil, api.ErrNone
	}
	at := make([]int, len(g.Next))
	for v := range at {
		at[v] = v
	}
	for x := range letters(w) {
		for v := range at {
			at[v] = g.Next[at[v]][x]
		}
	}
	return at, api.OK
}

// All returns the graphs of all groups of an index, in the order of their Next.
func All(k, index int) ([]Graph, api.Errno) {
	if k < 1 || k > 3 || index < 1 || index > 4 || k == 3 && index > 3 {
		return nil, api.ErrArg
	}
	return complete(k, index), api.OK
}

// complete returns the graphs of n vertices that have all edges, in the order of their Next.
func complete(k, n int) []Graph {
	var all []Graph
	next := make([][]int, n)
	for v := range next {
		next[v] = slices.Repeat([]int{none}, 2*k)
	}
	// fill tries all that the edges may be from vertex v and letter x on, after so many vertices were met.
	var fill func(v, x, met int)
	fill = func(v, x, met int) {
		if x == 2*k {
			v, x = v+1, 0
		}
		if v == met {
			if met == n {
				all = append(all, Graph{k, copied(next)})
			}
			return
		}
		if next[v][x] != none {
			fill(v, x+1, met)
			return
		}
		for to := range min(met+1, n) {
			if next[to][inverse(x)] == none {
				next[v][x], next[to][inverse(x)] = to, v
				fill(v, x+1, max(met, to+1))
				next[v][x], next[to][inverse(x)] = none, none
			}
		}
	}
	fill(0, 0, 1)
	return all
}

// copied returns new rows with the same numbers.
func copied(rows [][]int) [][]int {
	out := make([][]int, len(rows))
	for i, row := range rows {
		out[i] = slices.Clone(row)
	}
	return out
}

// Hall returns how many groups of an index there are.
func Hall(k, index int) (int64, api.Errno) {
	if k < 1 || k > 4 || index < 1 || index > 6 {
		return 0, api.ErrArg
	}
	return groups(k, index), api.OK
}

// groups returns how many groups of the index n there are: of all ways to lead k letters around n vertices, those that reach them all.
func groups(k, n int) int64 {
	count := int64(n) * ways(k, n)
	for i := 1; i < n; i++ {
		count -= ways(k, n-i) * groups(k, i)
	}
	return count
}

// ways returns n! to the power k - 1.
func ways(k, n int) int64 {
	count := int64(1)
	for range k - 1 {
		for i := range n {
			count *= int64(i + 1)
		}
	}
	return count
}
