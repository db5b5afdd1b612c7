package view_test

import (
	"testing"

	"rabbet/api"
	"rabbet/view"
)

// P6.6: cases that are worked out by hand. A hexagon may begin with any of its points, and go around in either way.
func TestHexagonCases(t *testing.T) {
	for _, x := range [][2]string{
		{"1 0 1, 0 1 1, 2 0 1, 0 2 1, 3 0 1, 0 4 1", "1 11/8 -5/2"},  // sides meet in -3, 4 and 18/5, -4/5 and 2/3, 4/3
		{"0 1 1, 0 0 1, 1 1 1, 1 0 1, 2 0 1, 3 0 1", "1 -3/2 0"},     // they meet in 0, 0 twice, and in 1, 2/3
		{"1 0 1, 0 1 1, -1 0 1, 0 -1 1, 3 4 5, 4 3 5", "1 3/7 -5/7"}, // of a circle: in 1/2, 1/2 and 1/5, 6/5 and 2, -3
	} {
		l := triples(x[0])
		want, e := view.Hexagon([6]view.Triple(l))
		if text(want) != x[1] || e != api.OK {
			t.Errorf("Hexagon of %s: %s, %d", x[0], text(want), e)
		}
		for i := range 6 {
			var on, back [6]view.Triple
			for j := range 6 {
				on[j], back[j] = l[(i+j)%6], l[(i+6-j)%6]
			}
			for _, points := range [][6]view.Triple{on, back} {
				if line, e := view.Hexagon(points); text(line) != text(want) || e != api.OK {
					t.Errorf("Hexagon of %v: %s, %d", points, text(line), e)
				}
			}
		}
	}
	for _, x := range []string{
		"1 0 0, 0 1 0, 0 0 1, 1 1 1, 1 2 3, 1 2 4",   // not collinear
		"0 0 1, 1 0 1, 0 1 1, 2 0 1, 3 0 1, 1 1 1",   // the first and the fourth side are the same
		"1 1 1, 0 0 1, 1 0 1, 0 1 1, 2 0 1, 3 0 1",   // the second and the fifth one
		"3 0 1, 1 1 1, 0 0 1, 1 0 1, 0 1 1, 2 0 1",   // the third and the sixth one
		"0 0 1, 1 0 1, 2 0 1, 3 0 1, 4 0 1, 5 0 1",   // all of them
		"1 0 1, 0 1 1, -1 0 1, 0 -1 1, 3 4 5, 2 3 5", // five of a circle
	} {
		line, e := view.Hexagon([6]view.Triple(triples(x)))
		flat(t, "Hexagon of "+x, line, e)
	}
}

// P6.6: two of the points may be the same, wherever they stand.
func TestHexagonRepeated(t *testing.T) {
	s := newSource(74)
	good := [6]view.Triple(triples("1 0 1, 0 1 1, 2 0 1, 0 2 1, 3 0 1, 0 4 1"))
	for i := range 6 {
		for j := range 6 {
			if i != j {
				bad := good
				bad[i] = s.times(bad[j])
				line, e := view.Hexagon(bad)
				flat(t, "Hexagon of repeated points", line, e)
			}
		}
	}
}

// meets is the three points where opposite sides meet, false if one of them is not there.
func meets(points [6]view.Triple) ([]view.Triple, bool) {
	var out []view.Triple
	for i := range 3 {
		side, e := view.Join(points[i], points[i+1])
		opposite, f := view.Join(points[i+3], points[(i+4)%6])
		p, g := view.Join(side, opposite)
		if e != api.OK || f != api.OK || g != api.OK {
			return nil, false
		}
		out = append(out, p)
	}
	return out, true
}

// P6.6: Hexagon, by the definition.
func TestHexagon(t *testing.T) {
	s := newSource(75)
	all, found := tiny(), map[bool]int{}
	for range 20000 {
		var points [6]view.Triple
		order := s.Perm(len(all))
		for i := range points {
			points[i] = all[order[i]]
		}
		if s.Intn(10) == 0 {
			points[s.Intn(6)] = points[s.Intn(6)]
		}
		line, e := view.Hexagon(points)
		three, ok := meets(points)
		ok = ok && differ(points[:]...) && rankOf(three...) == 2
		found[ok]++
		if !ok {
			flat(t, "Hexagon", line, e)
			continue
		}
		if e != api.OK || !isNormal(line) {
			t.Fatalf("Hexagon of %v: %s, %d", points, text(line), e)
		}
		for _, p := range three {
			if !isOn(p, line) {
				t.Fatalf("Hexagon of %v: %s, not through %s", points, text(line), text(p))
			}
		}
	}
	if min(found[true], found[false]) < 1000 {
		t.Fatalf("Hexagon: too few of a kind: %v", found)
	}
}
