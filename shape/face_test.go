package shape_test

import (
	"testing"

	"rabbet/api"
	"rabbet/shape"
)

// P9.1: faces by hand.
func TestFacesByHand(t *testing.T) {
	for _, x := range []struct {
		facets string
		want   [5]string
	}{
		{"0", [5]string{"0"}},
		{"f", [5]string{"f"}},
		{"f 0", [5]string{"0 f"}},
		{"01 02 12", [5]string{"0 1 2", "01 02 12"}},
		{"12 02 01", [5]string{"0 1 2", "01 02 12"}},
		{"012", [5]string{"0 1 2", "01 02 12", "012"}},
		{"2 12 012", [5]string{"0 1 2", "01 02 12", "012"}},
		{"5 123 3a 2b", [5]string{"1 2 3 5 a b", "12 13 23 2b 3a", "123"}},
		{"29ef", [5]string{"2 9 e f", "29 2e 2f 9e 9f ef", "29e 29f 2ef 9ef", "29ef"}},
		{"1234 0124", [5]string{"0 1 2 3 4", "01 02 04 12 13 14 23 24 34", "012 014 024 123 124 134 234", "0124 1234"}},
	} {
		for k, want := range x.want {
			l, e := shape.Faces(lists(x.facets), k)
			if text(l) != want || e != api.OK {
				t.Errorf("Faces of %s, %d: %s, %d", x.facets, k, text(l), e)
			}
		}
	}
}

// P9.1: faces, facets and the Euler number of many complexes, by the definitions.
func TestFaces(t *testing.T) {
	r := newRand(11)
	for range 300 {
		c := mixed(r)
		euler := 0
		for k := range 5 {
			want := faces(c, k)
			if l, e := shape.Faces(c, k); text(l) != text(want) || e != api.OK {
				t.Fatalf("Faces of %s, %d: %s, %d", text(c), k, text(l), e)
			}
			euler += []int{1, -1}[k%2] * len(want)
		}
		if n, e := shape.Euler(c); n != euler || e != api.OK {
			t.Fatalf("Euler of %s: %d, %d", text(c), n, e)
		}
		if l, e := shape.Facets(c); text(l) != text(maximal(c)) || e != api.OK {
			t.Fatalf("Facets of %s: %s, %d", text(c), text(l), e)
		}
	}
}

// P9.1: as many faces as there can be.
func TestManyFaces(t *testing.T) {
	c := lists("0123 4567 89ab cdef 048c 159d 26ae 37bf 05af 14be 278d 369c 07ad 16bc 258f 349e 069b 178a 24ce 35df")
	for k, want := range []int{16, 98, 80, 20, 0} {
		if l, e := shape.Faces(c, k); len(l) != want || text(l) != text(faces(c, k)) || e != api.OK {
			t.Errorf("Faces of dimension %d: %d, %d", k, len(l), e)
		}
	}
	if n := must(shape.Euler(c)); n != 16-98+80-20 {
		t.Errorf("Euler: %d", n)
	}
}

// P9.1: Facets by hand.
func TestFacets(t *testing.T) {
	for _, x := range [][2]string{
		{"0", "0"},
		{"1 0", "0 1"},
		{"0 01", "01"},
		{"01 1 0", "01"},
		{"12 012 0", "012"},
		{"12 02 01 3", "01 02 12 3"},
		{"0123 012 12 3 4 0 124", "0123 124"},
		{"0123 124 4 45", "0123 124 45"},
		{"23 13 12 03 02 01", "01 02 03 12 13 23"},
		{"f 1f 12 0 2", "0 12 1f"},
		{"3 1 12 123 0", "0 123"},
	} {
		if l, e := shape.Facets(lists(x[0])); text(l) != x[1] || e != api.OK {
			t.Errorf("Facets of %s: %s, %d", x[0], text(l), e)
		}
	}
}

// P9.1: Euler numbers by hand; example 1 of the chapter.
func TestEuler(t *testing.T) {
	for _, x := range []struct {
		facets string
		want   int
	}{
		{"0", 1},
		{"0 1 2", 3},
		{"01 02 12", 0},
		{"012", 1},
		{"0123", 1},
		{"012 013 023 123", 2},
		{"0123 0124 0134 0234 1234", 0},
		{"01 02 03 04 05 12 13 14 15 23 24 25 34 35 45", -9},
		{plane, 1},
		{torus, 0},
		{klein, 0},
		{dunce, 1},
	} {
		if n, e := shape.Euler(lists(x.facets)); n != x.want || e != api.OK {
			t.Errorf("Euler of %s: %d, %d", x.facets, n, e)
		}
	}
}
