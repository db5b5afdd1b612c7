package perm

import "rabbet/api"

// maxPattern is how many elements a pattern that is searched may have.
const maxPattern = 6

// Find returns the first occurrence of q in p.
func Find(p, q []int) ([]int, bool, api.Errno) {
	if e := checkAll(p, q); e != api.OK {
		return nil, false, e
	}
	if len(q) > maxPattern {
		return nil, false, api.ErrLong
	}
	at, ok := occurrence(p, q)
	return at, ok, api.OK
}

func occurrence(p, q []int) ([]int, bool) {
	var at []int
	var extend func(first int) bool
	extend = func(first int) bool {
		k := len(at)
		if k == len(q) {
			return true
		}
	search:
		for i, v := range values(p, first) {
			for j, position := range at {
				if (p[position] < v) != (q[j] < q[k]) {
					continue search
				}
			}
			at = append(at, i)
			if extend(i + 1) {
				return true
			}
			at = at[:k]
		}
		return false
	}
	if !extend(0) {
		return nil, false
	}
	return at, true
}

// Baxter reports whether p is a Baxter permutation, and returns the first positions that rule it out.
func Baxter(p []int) ([]int, bool, api.Errno) {
	if e := Check(p); e != api.OK {
		return nil, false, e
	}
	for a := range p {
		for j := range values(p, a+1) {
			for b, last := range values(p, j+2) {
				if rulesOut(p[a], p[j], p[j+1], last) {
					return []int{a, j, j + 1, b}, false, api.OK
				}
			}
		}
	}
	return nil, true, api.OK
}

// rulesOut reports whether the values at a, j, j + 1 and b are those of no Baxter permutation.
func rulesOut(a, j, next, b int) bool {
	return next < a && a < b && b < j || j < b && b < a && a < next
}
