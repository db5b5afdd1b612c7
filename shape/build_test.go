package shape_test

import (
	"slices"
	"testing"

	"rabbet/api"
	"rabbet/shape"
)

// nerve is the definition: lists of at most four facets that have a vertex in common.
func nerve(c [][]int) [][]int {
	var out [][]int
	var list []int
	var extend func(from int)
	extend = func(from int) {
		if len(list) > 0 && !slices.ContainsFunc(c[list[0]], func(v int) bool {
			return !slices.ContainsFunc(list, func(i int) bool { return !slices.Contains(c[i], v) })
		}) {
			return
		}
		if len(list) > 0 {
			out = append(out, slices.Clone(list))
		}
		for i := from; i < len(c) && len(list) < 4; i++ {
			list = append(list, i)
			extend(i + 1)
			list = list[:len(list)-1]
		}
	}
	extend(0)
	return maximal(out)
}

// link is the definition: faces that, with v added, are faces, and do not have it.
func link(c [][]int, v int) [][]int {
	var out [][]int
	all := allFaces(c)
	for _, f := range all {
		with := append(slices.Clone(f), v)
		slices.Sort(with)
		if !slices.Contains(f, v) && hasList(all, with) {
			out = append(out, f)
		}
	}
	return maximal(out)
}

// joined is the definition of the cone and the double: their facets.
func joined(c [][]int, count int) [][]int {
	var tips []int
	for v := 0; len(tips) < count; v++ {
		if !inSome([]int{v}, c) {
			tips = append(tips, v)
		}
	}
	var out [][]int
	for _, v := range tips {
		for _, facet := range c {
			list := append(slices.Clone(facet), v)
			slices.Sort(list)
			out = append(out, list)
		}
	}
	return maximal(out)
}

// P9.4: nerves by hand.
func TestNerveByHand(t *testing.T) {
	for _, x := range [][2]string{
		{"5", "0"},
		{"012", "0"},
		{"0 1", "0 1"},
		{"01 12", "01"},
		{"01 02 12", "01 02 12"},
		{"01 12 23", "01 12"},
		{"01 02 03", "012"},
		{"0 01", "01"},
		{"012 13 23 34 4", "01 02 123 34"},
		{"01 23 45", "0 1 2"},
		{"01 23 12", "02 12"},
		{"01 02 03 04", "0123"},
		{"01 02 03 04 05", "0123 0124 0134 0234 1234"},
		{"012 013 023 123", "012 013 023 123"},
		{"01 12 23 03", "01 03 12 23"},
		{"0123 0124 0134 0234 1234", "0123 0124 0134 0234 1234"},
		{"05 1 15 2 25 3 35 45", "0246 0247 0267 0467 12 2467 34 56"},
	} {
		l, e := shape.Nerve(lists(x[0]))
		if text(l) != x[1] || e != api.OK {
			t.Errorf("Nerve of %s: %s, %d", x[0], text(l), e)
		}
	}
}

// P9.4: links by hand.
func TestLinkByHand(t *testing.T) {
	for _, x := range []struct {
		facets string
		v      int
		want   string
	}{
		{"0", 0, ""},
		{"0 12", 0, ""},
		{"0 12", 1, "2"},
		{"0 12 1", 1, "2"},
		{"0 12 1", 2, "1"},
		{"01 02 12", 1, "0 2"},
		{"012", 1, "02"},
		{"012 1f", 1, "02 f"},
		{"012 1f", 15, "1"},
		{"012 01", 1, "02"},
		{"012 13 123", 1, "02 23"},
		{"0123", 2, "013"},
		{"0123 24 2", 2, "013 4"},
		{"012 013 023 123", 3, "01 02 12"},
		{plane, 0, "12 13 24 35 45"},
		{plane, 5, "03 04 12 14 23"},
	} {
		l, e := shape.Link(lists(x.facets), x.v)
		if text(l) != x.want || e != api.OK {
			t.Errorf("Link of %s, %d: %s, %d", x.facets, x.v, text(l), e)
		}
	}
}

// P9.4: cones and doubles by hand; example 3 of the chapter.
func TestConeAndDoubleByHand(t *testing.T) {
	for _, x := range [][3]string{
		{"0", "01", "01 02"},
		{"1", "01", "01 12"},
		{"0 1", "02 12", "02 03 12 13"},
		{"1 0", "02 12", "02 03 12 13"},
		{"f", "0f", "0f 1f"},
		{"0 2", "01 12", "01 03 12 23"},
		{"01", "012", "012 013"},
		{"0 01", "012", "012 013"},
		{"1 01 0 3", "012 23", "012 014 23 34"},
		{"12 23 13", "012 013 023", "012 013 023 124 134 234"},
		{"012", "0123", "0123 0124"},
		{"024", "0124", "0124 0234"},
		{"abc 1", "01 0abc", "01 0abc 12 2abc"},
	} {
		c := lists(x[0])
		if l, e := shape.Cone(c); text(l) != x[1] || e != api.OK {
			t.Errorf("Cone of %s: %s, %d", x[0], text(l), e)
		}
		if l, e := shape.Double(c); text(l) != x[2] || e != api.OK {
			t.Errorf("Double of %s: %s, %d", x[0], text(l), e)
		}
	}
}

// P9.4: what is made of many complexes, by the definitions.
func TestMaking(t *testing.T) {
	r := newRand(41)
	cones, doubles := 0, 0
	for range 400 {
		c := mixed(r)
		if l, e := shape.Nerve(c); text(l) != text(nerve(c)) || e != api.OK {
			t.Fatalf("Nerve of %s: %s, %d", text(c), text(l), e)
		}
		for v := range 16 {
			want := api.OK
			if !inSome([]int{v}, c) {
				want = api.ErrNone
			}
			l, e := shape.Link(c, v)
			expect(t, "Link", want, values(l, e))
			if text(l) != text(link(c, v)) {
				t.Fatalf("Link of %s, %d: %s", text(c), v, text(l))
			}
		}
		l, e := shape.Cone(c)
		expect(t, "Cone of "+text(c), joinedError(c, joined(c, 1)), values(l, e))
		if e == api.OK && text(l) != text(joined(c, 1)) {
			t.Fatalf("Cone of %s: %s", text(c), text(l))
		}
		m, f := shape.Double(c)
		expect(t, "Double of "+text(c), joinedError(c, joined(c, 2)), values(m, f))
		if f == api.OK && text(m) != text(joined(c, 2)) {
			t.Fatalf("Double of %s: %s", text(c), text(m))
		}
		cones, doubles = cones+len(l), doubles+len(m)
	}
	if cones < 500 || doubles < 500 {
		t.Errorf("%d facets of cones, %d of doubles", cones, doubles)
	}
}

// joinedError is the error of a cone or a double with these facets.
func joinedError(c, made [][]int) api.Errno {
	if slices.ContainsFunc(c, func(facet []int) bool { return len(facet) == 4 }) {
		return api.ErrArg
	}
	if len(made) > 20 || slices.ContainsFunc(made, func(facet []int) bool { return facet[len(facet)-1] > 15 }) {
		return api.ErrLong
	}
	return api.OK
}

// P9.4: nerves with many facets: all lists of four out of twenty facets with common vertices.
func TestLargeNerve(t *testing.T) {
	c := lists("012 0123 0124 0125 0126 0127 0128 0129 012a 012b 012c 012d 012e 012f 013 0134 0135 0136 0137 0138")
	l, e := shape.Nerve(c)
	if len(l) != 20*19*18*17/24 || e != api.OK {
		t.Fatalf("%d facets, %d", len(l), e)
	}
	for i, list := range l {
		if len(list) != 4 || !slices.IsSorted(list) || i > 0 && slices.Compare(l[i-1], list) >= 0 {
			t.Fatalf("%v", list)
		}
	}
}
