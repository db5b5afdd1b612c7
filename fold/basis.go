package fold

import (
	"iter"

	"rabbet/api"
	"rabbet/hang"
)

// spare yields the edges of small letters by which no vertex is first met, and where they lead.
func spare(g Graph, in []edge) iter.Seq2[edge, int] {
	return func(yield func(edge, int) bool) {
		for v, next := range g.Next {
			for x, to := range present(next) {
				there, back := edge{v, x}, edge{to, inverse(x)}
				if x%2 == 1 || in[to] == there || in[v] == back {
					continue
				}
				if !yield(there, to) {
					return
				}
			}
		}
	}
}

// treeWays returns the tree ways of all vertices.
func treeWays(in []edge) []string {
	ways := make([]string, len(in))
	for v, by := range in {
		if v > 0 {
			ways[v] = ways[by.from] + letter(by.letter)
		}
	}
	return ways
}

// Rank returns how many words the basis has.
func Rank(g Graph) (int, api.Errno) {
	if e := Check(g); e != api.OK {
		return 0, e
	}
	ends := 0
	for _, next := range g.Next {
		ends += degree(next)
	}
	return ends/2 - len(g.Next) + 1, api.OK
}

// Basis returns the basis of the group.
func Basis(g Graph) ([]string, api.Errno) {
	if e := Check(g); e != api.OK {
		return nil, e
	}
	in, _ := entries(g)
	ways := treeWays(in)
	var basis []string
	for by, to := range spare(g, in) {
		back, _ := hang.Inverse(ways[to])
		basis = append(basis, ways[by.from]+letter(by.letter)+back) // which is reduced, as the graph is folded
	}
	return basis, api.OK
}

// Express returns the reduced expression of a word in the basis.
func Express(g Graph, w string) ([]int, api.Errno) {
	if e := checkBoth(g, w); e != api.OK {
		return nil, e
	}
	if !has(g, w) {
		return nil, api.ErrNone
	}
	in, _ := entries(g)
	number := map[edge]int{}
	count := 0
	for by := range spare(g, in) {
		count++
		number[by] = count
	}
	var out []int
	at := 0
	for x := range letters(reduced(w)) {
		to := g.Next[at][x]
		if i, ok := number[edge{at, x}]; ok {
			out = append(out, i)
		}
		if i, ok := number[edge{to, inverse(x)}]; ok {
			out = append(out, -i)
		}
		at = to
	}
	return out, api.OK
}
