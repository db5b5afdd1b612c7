package fold

import (
	"iter"

	"rabbet/hang"
)

// union keeps parts of things that may turn out to be one. T is what is known of a part.
type union[T any] struct {
	above []int
	known []T
}

// add returns the number of a new part.
func (u *union[T]) add(known T) int {
	u.above = append(u.above, len(u.above))
	u.known = append(u.known, known)
	return len(u.above) - 1
}

// top returns the number that stands for the part of v.
func (u *union[T]) top(v int) int {
	for u.above[v] != v {
		u.above[v] = u.above[u.above[v]]
		v = u.above[v]
	}
	return v
}

// join lets two parts meet. It reports which one stays and which one goes into it, or false if they are one already.
func (u *union[T]) join(v, w int) (stays, goes int, meet bool) {
	stays, goes = u.top(v), u.top(w)
	if stays == goes {
		return stays, goes, false
	}
	u.above[goes] = stays
	return stays, goes, true
}

// edges are, for each letter, the vertex to which its edge leads.
type edges [2 * maxNails]int

// noEdges returns the edges of a vertex that has none.
func noEdges() edges {
	return edges{none, none, none, none, none, none, none, none}
}

// sheet is a graph that is being folded. Edges may lead to vertices that have met others since.
type sheet struct {
	k        int
	vertices union[edges]
}

// lay puts a graph on the sheet, beside what is there, and returns the vertex that its vertex 0 is.
func (s *sheet) lay(g Graph) int {
	start := len(s.vertices.above)
	for _, next := range g.Next {
		all := noEdges()
		for x, to := range present(next) {
			all[x] = start + to
		}
		s.vertices.add(all)
	}
	return start
}

// draw goes the way of a reduced word from a vertex, adds the edges that do not exist, and returns where it ends.
func (s *sheet) draw(from int, w string) int {
	at := s.vertices.top(from)
	for x := range letters(w) {
		to := s.vertices.known[at][x]
		if to == none {
			to = s.vertices.add(noEdges())
			s.vertices.known[at][x] = to
			s.vertices.known[to][inverse(x)] = at
		}
		at = s.vertices.top(to)
	}
	return at
}

// meet makes two vertices one, and then all others that must be one.
func (s *sheet) meet(v, w int) {
	due := [][2]int{{v, w}}
	for len(due) > 0 {
		last := due[len(due)-1]
		due = due[:len(due)-1]
		stays, goes, meet := s.vertices.join(last[0], last[1])
		if !meet {
			continue
		}
		for x, to := range present(s.vertices.known[goes][:]) {
			if has := s.vertices.known[stays][x]; has != none {
				due = append(due, [2]int{has, to})
			} else {
				s.vertices.known[stays][x] = to
			}
		}
	}
}

// trim takes away the dead end at a vertex, as far as to the base at most.
func (s *sheet) trim(end, base int) {
	for end != base && degree(s.vertices.known[end][:]) == 1 {
		x, to := s.someEdge(end)
		s.vertices.known[end][x] = none
		s.vertices.known[to][inverse(x)] = none
		end = to
	}
}

// someEdge returns an edge of a vertex that has one.
func (s *sheet) someEdge(v int) (x, to int) {
	for x, to := range s.edges(v) {
		return x, to
	}
	return none, none
}

// edges yields the letters of a vertex's edges, and where they lead.
func (s *sheet) edges(v int) iter.Seq2[int, int] {
	return func(yield func(int, int) bool) {
		for x, to := range present(s.vertices.known[v][:]) {
			if !yield(x, s.vertices.top(to)) {
				return
			}
		}
	}
}

// graph returns the graph of the vertices that are met from a vertex.
func (s *sheet) graph(base int) (Graph, bool) {
	return traced(s.k, s.vertices.top(base), s.edges)
}

// generated returns the graph of the group of some words.
func generated(k int, words []string) (Graph, bool) {
	s := sheet{k: k}
	base := s.vertices.add(noEdges())
	for _, w := range words {
		s.meet(s.draw(base, reduced(w)), base)
	}
	return s.graph(base)
}

// joined returns the graph of the group of the wires of two groups.
func joined(g, h Graph) (Graph, bool) {
	s := sheet{k: g.K}
	base := s.lay(g)
	s.meet(base, s.lay(h))
	return s.graph(base)
}

// turned returns the graph of the wires of a group between a word and its inverse: those that start at the beginning of the word, if it ends at vertex 0.
func turned(g Graph, w string) (Graph, bool) {
	back, _ := hang.Inverse(w)
	s := sheet{k: g.K}
	start := s.lay(g)
	base := s.draw(start, reduced(back))
	s.trim(start, base)
	return s.graph(base)
}
