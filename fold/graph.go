package fold

import (
	"iter"
	"slices"

	"rabbet/hang"
)

// none is where an edge leads that does not exist.
const none = -1

// edge is the edge of a letter that leaves a vertex.
type edge struct{ from, letter int }

// letters yields the numbers of a word's letters: 0 for a, 1 for A, 2 for b, and so on.
func letters(w string) iter.Seq[int] {
	return func(yield func(int) bool) {
		for _, c := range w {
			x := 2 * int(c-'a')
			if c < 'a' {
				x = 2*int(c-'A') + 1
			}
			if !yield(x) {
				return
			}
		}
	}
}

// letter returns the letter of a number.
func letter(x int) string {
	return "aAbBcCdD"[x : x+1]
}

// inverse returns the letter of the same edge in the other direction.
func inverse(x int) int {
	return x ^ 1
}

// reduced returns the reduced form of a word.
func reduced(w string) string {
	form, _ := hang.Reduce(w)
	return form
}

// present yields the letters of the edges that a vertex has, and where they lead.
func present(next []int) iter.Seq2[int, int] {
	return func(yield func(int, int) bool) {
		for x, to := range next {
			if to != none && !yield(x, to) {
				return
			}
		}
	}
}

// isFolded reports whether a graph that has a vertex is folded.
func isFolded(g Graph) bool {
	if !agrees(g) {
		return false
	}
	for v, next := range g.Next {
		if v > 0 && degree(next) < 2 {
			return false
		}
	}
	_, ok := entries(g)
	return ok
}

// agrees reports whether each edge leads to a vertex from which it leads back.
func agrees(g Graph) bool {
	for _, next := range g.Next {
		if len(next) != 2*g.K {
			return false
		}
	}
	for v, next := range g.Next {
		for x, to := range present(next) {
			if to < 0 || to >= len(g.Next) || g.Next[to][inverse(x)] != v {
				return false
			}
		}
	}
	return true
}

// degree returns how many edges a vertex has.
func degree(next []int) int {
	n := 0
	for range present(next) {
		n++
	}
	return n
}

// entries returns the edges by which the vertices are first met (none for vertex 0), or false if not all are met, or in another order than that of their numbers.
func entries(g Graph) ([]edge, bool) {
	in := []edge{{none, none}}
	for v, next := range g.Next {
		if v == len(in) {
			return nil, false
		}
		for x, to := range present(next) {
			if to > len(in) {
				return nil, false
			}
			if to == len(in) {
				in = append(in, edge{v, x})
			}
		}
	}
	return in, true
}

// same reports whether two graphs of the same nails are the same.
func same(g, h Graph) bool {
	return slices.EqualFunc(g.Next, h.Next, slices.Equal)
}

// follow returns the vertex to which the way of a reduced word leads, or false if an edge of it does not exist.
func follow(g Graph, w string) (int, bool) {
	at := 0
	for x := range letters(w) {
		at = g.Next[at][x]
		if at == none {
			return none, false
		}
	}
	return at, true
}

// has reports whether a word is in the group.
func has(g Graph, w string) bool {
	end, ok := follow(g, reduced(w))
	return ok && end == 0
}

// traced returns the graph of what is met from a start, or false if it has too many vertices. The edges of a vertex come in the order of their letters.
func traced[V comparable](k int, start V, edges func(V) iter.Seq2[int, V]) (Graph, bool) {
	number := map[V]int{start: 0}
	met := []V{start}
	meet := func(v V) int {
		at, known := number[v]
		if !known {
			at = len(met)
			number[v] = at
			met = append(met, v)
		}
		return at
	}
	var next [][]int
trace:
	for at := 0; at < len(met); at++ {
		next = append(next, slices.Repeat([]int{none}, 2*k))
		for x, to := range edges(met[at]) {
			next[at][x] = meet(to)
			if len(met) > maxVertices {
				break trace
			}
		}
	}
	return Graph{k, next}, len(met) <= maxVertices
}
