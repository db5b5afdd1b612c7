package bars

import (
	"slices"
	"testing"
)

// P10.1: residues are integers modulo their prime.
func residues[P prime](t *testing.T, p int) {
	var name P
	if name.number() != p {
		t.Errorf("%d stands for %d", name.number(), p)
	}
	for x := range p {
		a := modulo[P](x)
		if n := int(a.negative()); n < 0 || n >= p || (n+x)%p != 0 {
			t.Errorf("-%d is %d modulo %d", x, n, p)
		}
		if n := int(modulo[P](x + 3*p)); n != x {
			t.Errorf("%d is %d modulo %d", x+3*p, n, p)
		}
		for y := range p {
			b := modulo[P](y)
			if n := int(a.plus(b)); n != (x+y)%p {
				t.Errorf("%d + %d is %d modulo %d", x, y, n, p)
			}
			if n := int(a.times(b)); n != x*y%p {
				t.Errorf("%d times %d is %d modulo %d", x, y, n, p)
			}
		}
		if x > 0 && a.times(a.inverse()) != 1 {
			t.Errorf("%d is the inverse of %d modulo %d", a.inverse(), x, p)
		}
	}
}

func TestResidues(t *testing.T) {
	residues[two](t, 2)
	residues[three](t, 3)
	residues[five](t, 5)
	residues[seven](t, 7)
}

// P10.1: faces come in the order of their shades, each behind its sides, until the loop is left.
func TestByShade(t *testing.T) {
	c, shades := [][]int{{0, 1, 2}, {2, 3}, {4}}, []int{3, 1, 3, 2, 3}
	var order []int
	var got [][]int
	for shade, face := range byShade(c, shades) {
		order = append(order, shade)
		got = append(got, face)
	}
	want := [][]int{{1}, {3}, {0}, {2}, {4}, {0, 1}, {0, 2}, {1, 2}, {2, 3}, {0, 1, 2}}
	if !slices.Equal(order, []int{1, 2, 3, 3, 3, 3, 3, 3, 3, 3}) || !slices.EqualFunc(got, want, slices.Equal[[]int]) {
		t.Errorf("faces %v with %v", got, order)
	}
	for n := 1; n <= len(want); n++ {
		count := 0
		for range byShade(c, shades) {
			count++
			if count == n {
				break
			}
		}
		if count != n {
			t.Errorf("%d faces, not %d", count, n)
		}
	}
}

// P10.1: chains that are kept end with 1, and are nothing but multiples of what they were, less others that are kept.
func TestReduce(t *testing.T) {
	p := picture[five]{columns: []column[five]{{1}, nil, {2, 3, 1}, nil, nil}}
	for _, x := range []struct {
		chain, want column[five]
	}{
		{column[five]{}, nil},
		{column[five]{0, 0, 0}, nil},
		{column[five]{3, 0, 0}, nil},
		{column[five]{0, 2, 0}, column[five]{0, 1}},
		{column[five]{4, 2, 0}, column[five]{2, 1}},
		{column[five]{4, 1, 2}, nil},
		{column[five]{4, 3, 2}, column[five]{0, 1}},
		{column[five]{4, 1, 2, 3}, column[five]{3, 2, 4, 1}},
		{column[five]{4, 1, 2, 0, 1}, column[five]{4, 1, 2, 0, 1}},
	} {
		if got := p.reduce(slices.Clone(x.chain)); !slices.Equal(got, x.want) {
			t.Errorf("%v is reduced to %v, not %v", x.chain, got, x.want)
		}
	}
}
