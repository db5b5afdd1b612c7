package shape_test

import (
	"slices"
	"strconv"
	"strings"
	"testing"

	"rabbet/api"
	"rabbet/shape"
)

// P9.5 (Euler, Poincare)
func TestEulerPoincare(t *testing.T) {
	r := newRand(51)
	for range 500 {
		c := mixed(r)
		sum := 0
		for k := range 5 {
			sum += []int{1, -1}[k%2] * betti(t, c, k)
		}
		if n := must(shape.Euler(c)); n != sum {
			t.Fatalf("Euler of %s: %d, but by Bettis %d", text(c), n, sum)
		}
	}
}

// P9.5: each Torsion number divides the next one, and there is none in dimension 0 or in that of the complex.
func TestTorsionIsChained(t *testing.T) {
	r := newRand(52)
	for range 300 {
		c := mixed(r)
		for k := range 5 {
			_, torsion, _ := shape.Homology(c, k)
			if len(torsion) > 0 && (k == 0 || len(faces(c, k+1)) == 0) {
				t.Fatalf("Homology of %s, %d: %s", text(c), k, join(torsion))
			}
			last := int64(1)
			for _, n := range torsion {
				m, ok := n.Int64()
				if !ok || m < 2 || m%last != 0 {
					t.Fatalf("Homology of %s, %d: %s", text(c), k, join(torsion))
				}
				last = m
			}
		}
	}
}

// P9.2, P9.5: facets that are contained in others change nothing, and the parts of a complex add up.
func TestPartsAddUp(t *testing.T) {
	r := newRand(53)
	for range 200 {
		c := mixed(r)
		if got, want := homology(t, must(shape.Facets(c))), homology(t, c); got != want {
			t.Fatalf("%s: %s, but of its Facets %s", text(c), want, got)
		}
		a := grown(r, nil, 1+r.Intn(10), 8, 1, 4)
		b := grown(r, nil, 1+r.Intn(10), 8, 1, 4)
		both := slices.Clone(a)
		for _, facet := range b {
			var list []int
			for _, v := range facet {
				list = append(list, v+8)
			}
			both = append(both, list)
		}
		for k := range 5 {
			if betti(t, both, k) != betti(t, a, k)+betti(t, b, k) {
				t.Fatalf("%s and %s, in dimension %d: %d", text(a), text(b), k, betti(t, both, k))
			}
		}
	}
}

// P9.3: Betti of dimension 0 is the number of connected parts.
func TestBettiOfParts(t *testing.T) {
	r := newRand(54)
	for range 500 {
		c := mixed(r)
		if n := betti(t, c, 0); n != parts(c) {
			t.Fatalf("%s: %d parts, not %d", text(c), n, parts(c))
		}
	}
}

// lower is the homology of the dimensions 0 to 2, each in the notation of named.
func lower(t *testing.T, c [][]int) string {
	t.Helper()
	var out []string
	for k := range 3 {
		n, torsion, e := shape.Homology(c, k)
		if e != api.OK {
			t.Fatalf("Homology of %s, %d: %d", text(c), k, e)
		}
		out = append(out, strconv.Itoa(n)+"+"+join(torsion))
	}
	return strings.Join(out, ", ")
}

// covered reports whether P9.7 says something about the nerve of the facets.
func covered(facets [][]int) bool {
	for v := range 16 {
		n := 0
		for _, facet := range facets {
			if slices.Contains(facet, v) {
				n++
			}
		}
		if n > 4 {
			return false
		}
	}
	return len(facets) <= 16
}

// P9.7: a complex and the nerve of its facets have the same homology.
func TestNerves(t *testing.T) {
	r := newRand(55)
	count := map[string]int{}
	for range 3000 {
		sizes := [][2]int{{1, 4}, {2, 2}, {2, 3}, {3, 3}, {3, 4}, {4, 4}}[r.Intn(6)]
		c := grown(r, nil, 1+r.Intn(20), 4+r.Intn(13), sizes[0], sizes[1])
		facets := must(shape.Facets(c))
		if !covered(facets) {
			continue
		}
		made, e := shape.Nerve(facets)
		if e != api.OK || shape.Check(made) != api.OK {
			t.Fatalf("Nerve of %s: %s, %d", text(facets), text(made), e)
		}
		if got, want := lower(t, made), lower(t, c); got != want {
			t.Fatalf("%s: %s, but its nerve %s: %s", text(c), want, text(made), got)
		}
		count[lower(t, c)]++
	}
	if len(count) < 20 {
		t.Errorf("%d kinds of homology: %v", len(count), count)
	}
}

// P9.7: nerves by hand: of a sphere, of a torus of solids, of a ring, of the tetrahedron's boundary and that of a solid of a dimension more.
func TestNervesByHand(t *testing.T) {
	for _, s := range []string{
		"024 025 034 035 124 125 134 135",
		"012 013 023 123",
		"01 12 23 03",
		"0123 2345 4567 0167",
		"0123 0124 0134 0234 1234",
		"0123 3456 6789 0189",
		"01 02 03 12 13 23",
		"0 12 34 24",
	} {
		facets := must(shape.Facets(lists(s)))
		if got, want := lower(t, must(shape.Nerve(facets))), lower(t, lists(s)); !covered(facets) || got != want {
			t.Errorf("%s: %s, but its nerve: %s", s, want, got)
		}
	}
}

// P9.7: a cone has the homology of a point; the double that of the complex, one dimension higher. Example 3 of the chapter.
func TestConesAndDoubles(t *testing.T) {
	r := newRand(56)
	cones, doubles := 0, 0
	check := func(c [][]int) {
		if cone, e := shape.Cone(c); e == api.OK {
			cones++
			if got := homology(t, cone); got != "1" {
				t.Fatalf("the cone of %s: %s", text(c), got)
			}
		}
		double, e := shape.Double(c)
		if e != api.OK {
			return
		}
		doubles++
		if n, torsion, _ := shape.Homology(double, 0); n != 1 || len(torsion) != 0 {
			t.Fatalf("the double of %s has %d parts", text(c), n)
		}
		for k := range 4 {
			n, torsion, _ := shape.Homology(c, k)
			if k == 0 {
				n--
			}
			m, above, _ := shape.Homology(double, k+1)
			if n != m || join(torsion) != join(above) {
				t.Fatalf("the double of %s, in dimension %d: %d, %s", text(c), k+1, m, join(above))
			}
		}
	}
	for _, x := range known() {
		check(lists(x.facets))
	}
	for range 500 {
		check(grown(r, nil, 1+r.Intn(12), 2+r.Intn(13), 1, 1+r.Intn(3)))
	}
	if cones < 300 || doubles < 200 {
		t.Errorf("%d cones, %d doubles", cones, doubles)
	}
}

// P9.4, P9.5: the Euler number of a complex, from the links of its vertices: each face of dimension k is in k + 1 of them, one dimension lower.
func TestLinksAddUp(t *testing.T) {
	r := newRand(57)
	for range 200 {
		c := mixed(r)
		count := [3]int{}
		for _, v := range faces(c, 0) {
			l, e := shape.Link(c, v[0])
			if e != api.OK {
				t.Fatalf("Link of %s, %d: %d", text(c), v[0], e)
			}
			if len(l) == 0 {
				continue
			}
			for k := range count {
				count[k] += len(must(shape.Faces(l, k)))
			}
		}
		for k, n := range count {
			if n != (k+2)*len(faces(c, k+1)) {
				t.Fatalf("links of %s: %v", text(c), count)
			}
		}
	}
}
