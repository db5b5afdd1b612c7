package fold

import "iter"

// pair is a vertex of each of two graphs.
type pair struct{ v, w int }

// product is two graphs through which one goes at the same time. It may have millions of pairs where few belong to the meet.
type product struct{ g, h Graph }

// common yields the letters of the edges that both vertices of a pair have, and where they lead.
func (p product) common(at pair) iter.Seq2[int, pair] {
	return func(yield func(int, pair) bool) {
		for x, v := range present(p.g.Next[at.v]) {
			w := p.h.Next[at.w][x]
			if w != none && !yield(x, pair{v, w}) {
				return
			}
		}
	}
}

// passage goes from a pair by a letter, and on while there is just one way on, to a fork or to the start. It returns the letter that leads back, or false if it comes to a dead end.
func (p product) passage(at pair, x int) (end pair, back int, open bool) {
	at = pair{p.g.Next[at.v][x], p.h.Next[at.w][x]}
	for at != (pair{}) {
		ways, on, to := 0, none, at
		for y, next := range p.common(at) {
			if y != inverse(x) {
				ways, on, to = ways+1, y, next
			}
		}
		if ways == 0 {
			return pair{}, none, false
		}
		if ways > 1 {
			break
		}
		x, at = on, to
	}
	return at, inverse(x), true
}

// fork is a pair with more than two common edges, or the start.
type fork struct {
	at   pair
	from int   // the fork from which it was found
	ends edges // the forks to which its passages lead
	kept bool  // whether it belongs to the meet
}

// maze is what is known of a product: its forks and the passages between them.
type maze struct {
	product
	forks  []fork
	number map[pair]int
	kept   int // how many forks are
}

// add returns the number of a new fork.
func (m *maze) add(at pair, from int) int {
	m.number[at] = len(m.forks)
	m.forks = append(m.forks, fork{at: at, from: from, ends: noEdges()})
	return len(m.forks) - 1
}

// keep keeps a fork to which there is another way than the one on which it was found, and all forks of that one.
func (m *maze) keep(i int) {
	for !m.forks[i].kept {
		m.forks[i].kept = true
		m.kept++
		i = m.forks[i].from
	}
}

// explore finds all forks, and keeps those from which one may come back by another way, until these are too many.
func (m *maze) explore() {
	m.add(pair{}, 0)
	for i := 0; i < len(m.forks) && m.kept <= maxVertices; i++ {
		for x := range m.common(m.forks[i].at) {
			if m.forks[i].ends[x] == none {
				m.pass(i, x)
			}
		}
	}
}

// pass goes through a passage of a fork.
func (m *maze) pass(i, x int) {
	end, back, open := m.passage(m.forks[i].at, x)
	if !open {
		return
	}
	j, known := m.number[end]
	if known {
		m.keep(i)
		m.keep(j)
	} else {
		j = m.add(end, i)
	}
	m.forks[i].ends[x] = j
	m.forks[j].ends[back] = i
}

// open yields the edges of a pair that belong to the meet.
func (m *maze) open(at pair) iter.Seq2[int, pair] {
	return func(yield func(int, pair) bool) {
		i, isFork := m.number[at]
		for x, to := range m.common(at) {
			if (!isFork || m.comesBack(i, x)) && !yield(x, to) {
				return
			}
		}
	}
}

// comesBack reports whether one may come back by another way if one leaves a fork by a letter.
func (m *maze) comesBack(i, x int) bool {
	end := m.forks[i].ends[x]
	return end != none && m.forks[end].kept
}

// met returns the graph of the wires that are in both groups.
func met(g, h Graph) (Graph, bool) {
	m := maze{product: product{g, h}, number: map[pair]int{}}
	m.explore()
	if m.kept > maxVertices {
		return Graph{}, false
	}
	return traced(g.K, pair{}, m.open)
}
