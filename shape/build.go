package shape

import (
	"slices"

	"rabbet/api"
)

// Nerve returns the facets of the nerve: for each vertex, all lists of the facets that have it.
func Nerve(c [][]int) ([][]int, api.Errno) {
	if e := Check(c); e != api.OK {
		return nil, e
	}
	var out [][]int
	for f := range facesOf(c, 0) {
		var holders []int
		for i, facet := range c {
			if contains(facet, f.list()) {
				holders = append(holders, i)
			}
		}
		for list := range choices(holders, min(len(holders), maxSize)) {
			out = append(out, list)
		}
	}
	return outermost(out), api.OK
}

// Link returns the facets of the link of a vertex.
func Link(c [][]int, v int) ([][]int, api.Errno) {
	if e := Check(c); e != api.OK {
		return nil, e
	}
	found := false
	var out [][]int
	for _, facet := range c {
		if i := slices.Index(facet, v); i >= 0 {
			found = true
			if len(facet) > 1 {
				out = append(out, slices.Concat(facet[:i], facet[i+1:]))
			}
		}
	}
	if !found {
		return nil, api.ErrNone
	}
	return outermost(out), api.OK
}

// Cone returns the facets of the cone.
func Cone(c [][]int) ([][]int, api.Errno) {
	return joined(c, 1)
}

// Double returns the facets of the double.
func Double(c [][]int) ([][]int, api.Errno) {
	return joined(c, 2)
}

// joined returns the facets of a complex to which each of so many new vertices is added.
func joined(c [][]int, count int) ([][]int, api.Errno) {
	if e := Check(c); e != api.OK {
		return nil, e
	}
	tips := newVertices(c, count)
	var out [][]int
	for _, facet := range c {
		if len(facet) == maxSize {
			return nil, api.ErrArg
		}
		for _, v := range tips {
			list := append(slices.Clone(facet), v)
			slices.Sort(list)
			out = append(out, list)
		}
	}
	out = outermost(out)
	if len(out) > maxFacets || slices.Max(tips) > maxVertex {
		return nil, api.ErrLong
	}
	return out, api.OK
}

// newVertices returns the least numbers that are no vertices.
func newVertices(c [][]int, count int) []int {
	used := slices.Concat(c...)
	var out []int
	for v := 0; len(out) < count; v++ {
		if !slices.Contains(used, v) {
			out = append(out, v)
		}
	}
	return out
}
