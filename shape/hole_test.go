package shape_test

import (
	"testing"

	"rabbet/api"
	"rabbet/shape"
)

// P9.2: examples 1 and 2 of the chapter, and complexes whose homology is known.
func TestKnownHomology(t *testing.T) {
	for _, x := range known() {
		if got := homology(t, lists(x.facets)); got != x.homology {
			t.Errorf("%s: %s, not %s", x.name, got, x.homology)
		}
	}
}

// P9.2: other names of the vertices, and another order of the facets, do not matter.
func TestHomologyOfRelabelled(t *testing.T) {
	r := newRand(1)
	for _, x := range known() {
		for range 10 {
			c := relabelled(r, lists(x.facets))
			if got := homology(t, c); got != x.homology {
				t.Fatalf("%s, as %s: %s, not %s", x.name, text(c), got, x.homology)
			}
		}
	}
}

// P9.2: the homology of many complexes, calculated in another way.
func TestHomologyByPrimes(t *testing.T) {
	r := newRand(2)
	for range 400 {
		c := mixed(r)
		if got, want := homology(t, c), byPrimes(t, c); got != want {
			t.Fatalf("%s: %s, not %s", text(c), got, want)
		}
	}
}

// P9.2: dimensions in which there are no faces.
func TestHomologyWithoutFaces(t *testing.T) {
	for _, s := range []string{"0", "01", "012", "0123"} {
		for k := len(s); k <= 4; k++ {
			n, list, e := shape.Homology(lists(s), k)
			if n != 0 || len(list) != 0 || e != api.OK {
				t.Errorf("Homology of %s, %d: %d, %v, %d", s, k, n, list, e)
			}
		}
	}
}
