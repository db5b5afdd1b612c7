package perm

import (
	"slices"

	"rabbet/api"
)

// pairs is a set of pairs of values, of permutations of one size.
type pairs struct {
	size int
	has  [api.MaxPerm][api.MaxPerm]bool
}

// inverted returns the inversions of p, each with its greater value first.
func inverted(p []int) pairs {
	s := pairs{size: len(p)}
	for v, w := range inversions(p) {
		s.has[v][w] = true
	}
	return s
}

// with returns the pairs of both sets.
func (s pairs) with(t pairs) pairs {
	for v := range s.size {
		for w := range s.size {
			s.has[v][w] = s.has[v][w] || t.has[v][w]
		}
	}
	return s
}

// closed adds the pair of v and w wherever there are pairs that lead from v to w.
func (s pairs) closed() pairs {
	for through := range s.size {
		for v := range s.size {
			for w := range s.size {
				s.has[v][w] = s.has[v][w] || s.has[v][through] && s.has[through][w]
			}
		}
	}
	return s
}

// order returns the permutation of which these are the inversions.
func (s pairs) order() []int {
	out := make([]int, s.size)
	for v := range s.size {
		before := 0
		for w := range s.size {
			if w > v && s.has[w][v] || w < v && !s.has[v][w] {
				before++
			}
		}
		out[before] = v
	}
	return out
}

// Weak reports whether p is below q in the weak order.
func Weak(p, q []int) (bool, api.Errno) {
	if e := checkPair(p, q); e != api.OK {
		return false, e
	}
	all := inverted(q)
	return inverted(p).with(all) == all, api.OK
}

// Strong reports whether p is below q in the strong order.
func Strong(p, q []int) (bool, api.Errno) {
	if e := checkPair(p, q); e != api.OK {
		return false, e
	}
	var more [api.MaxPerm]int // by how many more values of at least j q began
	for i := range p {
		for j := range p {
			if q[i] >= j {
				more[j]++
			}
			if p[i] >= j {
				more[j]--
			}
			if more[j] < 0 {
				return false, api.OK
			}
		}
	}
	return true, api.OK
}

// Join returns the least permutation that is above both in the weak order.
func Join(p, q []int) ([]int, api.Errno) {
	if e := checkPair(p, q); e != api.OK {
		return nil, e
	}
	return join(p, q), api.OK
}

// join relies on this: an order in which c comes before b, and b before a, has c before a, and nothing else need be inverted.
func join(p, q []int) []int {
	return inverted(p).with(inverted(q)).closed().order()
}

// Meet returns the greatest permutation that is below both in the weak order.
func Meet(p, q []int) ([]int, api.Errno) {
	if e := checkPair(p, q); e != api.OK {
		return nil, e
	}
	return backward(join(backward(p), backward(q))), api.OK // the inversions of a list read backward are all other pairs
}

func backward(p []int) []int {
	out := slices.Clone(p)
	slices.Reverse(out)
	return out
}
