package view_test

import (
	"math/big"
	"testing"

	"rabbet/api"
	"rabbet/frac"
	"rabbet/view"
)

// P6.5: cases that are worked out by hand.
func TestThroughCases(t *testing.T) {
	for _, x := range [][2]string{
		{"1 0 0, 0 1 0, 0 0 1, 1 1 1, 1 2 3", "0 0 0 1 -4 3"},
		{"1 0 1, -1 0 1, 0 1 1, 0 -1 1, 3 4 5", "1 1 -1 0 0 0"},
		{"1 0 0, 0 1 0, 1 1 0, 0 0 1, 0 1 1", "0 0 0 0 1 0"},       // three on z = 0, the others on x = 0: z x
		{"1 0 1, 2 0 1, 3 0 1, 0 1 1, 0 2 1", "0 0 0 0 0 1"},       // three on y = 0, the others on x = 0: x y
		{"0 0 1, 2 0 1, 3 0 1, 0 1 1, 0 2 1", "0 0 0 0 0 1"},       // the first one on both
		{"0 0 1, 1 1 1, 2 4 1, 3 9 1, 0 1 0", "1 0 0 -1 0 0"},      // x x = y z
		{"0 0 1, 1 1 1, 2 4 1, 3 9 1, -1/2 1/4 1", "1 0 0 -1 0 0"}, // the same one
	} {
		l := triples(x[0])
		for i := range l { // their order does not matter
			c, e := view.Through([5]view.Triple{l[i], l[(i+1)%5], l[(i+2)%5], l[(i+3)%5], l[(i+4)%5]})
			if text(c) != x[1] || e != api.OK {
				t.Errorf("Through %s: %s, %d", x[0], text(c), e)
			}
			c, e = view.Through([5]view.Triple{l[i], l[(i+2)%5], l[(i+4)%5], l[(i+1)%5], l[(i+3)%5]})
			if text(c) != x[1] || e != api.OK {
				t.Errorf("Through %s: %s, %d", x[0], text(c), e)
			}
		}
	}
}

// hasConic reports whether five points have just one conic: they differ, and no four are collinear.
func hasConic(points [5]view.Triple) bool {
	for i := range points {
		rest := append(append([]view.Triple(nil), points[:i]...), points[i+1:]...)
		if rankOf(rest...) < 3 {
			return false
		}
	}
	return differ(points[:]...)
}

// P6.5: Through, by the definition; the rank of the equations proves that the conic is the only one (P6.7).
func TestThrough(t *testing.T) {
	s := newSource(69)
	all, found := tiny(), map[bool]int{}
	for i := range 5000 {
		var points [5]view.Triple
		for j := range points {
			points[j] = all[s.Intn(len(all))]
			if i%5 == 0 {
				points[j] = s.triple()
			}
		}
		c, e := view.Through(points)
		has := hasConic(points)
		found[has]++
		if !has {
			flat(t, "Through", c, e)
			continue
		}
		if e != api.OK || !isNormal(c) {
			t.Fatalf("Through %v: %s, %d", points, text(c), e)
		}
		var rows [][]*big.Rat
		for _, p := range points {
			rows = append(rows, monomials(p))
			if !isOnConic(c, p) {
				t.Fatalf("Through %v: %s is not through %s", points, text(c), text(p))
			}
		}
		if rank(rows...) != 5 {
			t.Fatalf("%v have more than one conic", points)
		}
	}
	if min(found[true], found[false]) < 100 {
		t.Fatalf("Through: too few of a kind: %v", found)
	}
}

// P6.5: two of the points may be the same, or four collinear, wherever they stand.
func TestThroughFlat(t *testing.T) {
	good := [5]view.Triple(triples("1 0 0, 0 1 0, 0 0 1, 1 1 1, 1 2 4"))
	line := triples("1 0 1, 0 1 1, 1 1 2, 3 -1 2, 5 2 7")
	s := newSource(70)
	for i := range 5 {
		for j := range 5 {
			if i != j {
				bad := good
				bad[i] = s.times(bad[j])
				c, e := view.Through(bad)
				flat(t, "Through repeated points", c, e)
			}
		}
		bad := [5]view.Triple(line)
		c, e := view.Through(bad)
		flat(t, "Through five points of a line", c, e)
		bad[i] = good[3]
		c, e = view.Through(bad)
		flat(t, "Through four points of a line", c, e)
		for j := range i { // three of a line are allowed
			bad := bad
			bad[j] = good[4]
			c, e := view.Through(bad)
			check(t, "Through three points of a line", c, e, lines(triple("1 1 -1"), triple("2 -3 1"))) // x + y = z, and 1, 1, 1 and 1, 2, 4
		}
	}
}

// P6.5: OnConic and Smooth.
func TestOnConicAndSmooth(t *testing.T) {
	for _, x := range []struct {
		c, p       string
		on, smooth bool
	}{
		{"1 1 -1 0 0 0", "1 0 1", true, true}, {"1 1 -1 0 0 0", "3 4 5", true, true}, {"1 1 -1 0 0 0", "1/2 1/2 1", false, true},
		{"0 0 0 1 -4 3", "1 2 3", true, true}, {"0 0 0 1 0 0", "1 0 3", true, false}, {"0 0 0 1 0 0", "1 1 3", false, false},
		{"0 0 0 0 1 0", "0 1 1", true, false}, {"0 0 0 0 1 0", "1 1 1", false, false}, {"0 0 0 0 0 1", "1 0 1", true, false}, {"0 0 0 0 0 1", "1 1 0", false, false},
		{"1 0 0 0 0 0", "0 1 2", true, false}, {"1 1 1 2 2 2", "1 1 -2", true, false}, {"1 2 3 4 5 6", "1 -1 0", false, true}, {"1 0 0 -1 0 0", "2 4 1", true, true},
		{"1 1 0 0 0 -2", "5 5 7", true, false}, {"1 2 3 4 5 6", "1 1 1", false, true}, {"1 2 -18 4 5 6", "1 1 1", true, true},
	} {
		if is, e := view.OnConic(conic(x.c), triple(x.p)); is != x.on || e != api.OK {
			t.Errorf("OnConic of %s, %s: %t, %d", x.c, x.p, is, e)
		}
		if is, e := view.Smooth(conic(x.c)); is != x.smooth || e != api.OK {
			t.Errorf("Smooth of %s: %t, %d", x.c, is, e)
		}
	}
	s := newSource(71)
	for range 1000 {
		c, p := s.conic(), s.triple()
		if s.Intn(2) == 0 { // two lines, or one
			c = lines(s.small(), s.small())
		}
		if is, e := view.OnConic(c, p); is != isOnConic(c, p) || e != api.OK {
			t.Fatalf("OnConic of %s, %s: %t, %d", text(c), text(p), is, e)
		}
		if is, e := view.Smooth(c); is != isSmooth(c) || e != api.OK {
			t.Fatalf("Smooth of %s: %t, %d", text(c), is, e)
		}
	}
}

// lines is the conic that is two lines.
func lines(l, k view.Triple) view.Conic {
	mul := func(i, j int) frac.Rat { return must(l[i].Mul(k[j])) }
	both := func(i, j int) frac.Rat { return must(mul(i, j).Add(mul(j, i))) }
	return view.Conic{mul(0, 0), mul(1, 1), mul(2, 2), both(1, 2), both(2, 0), both(0, 1)}
}

// P6.5: Polar and Pole.
func TestPolarCases(t *testing.T) {
	circle := "1 1 -1 0 0 0"
	for _, x := range [][3]string{
		{circle, "1 0 1", "1 0 -1"}, {circle, "0 0 1", "0 0 1"}, {circle, "2 3 4", "1 3/2 -2"}, {circle, "5 0 0", "1 0 0"},
		{"1 0 0 -1 0 0", "2 4 1", "1 -1/4 -1"}, {"1 2 3 4 5 6", "1 0 0", "1 3 5/2"}, {"1 2 3 4 5 6", "0 1 0", "1 2/3 2/3"}, {"1 2 3 4 5 6", "0 0 1", "1 4/5 6/5"},
	} {
		if l, e := view.Polar(conic(x[0]), triple(x[1])); text(l) != x[2] || e != api.OK {
			t.Errorf("Polar of %s, %s: %s, %d", x[0], x[1], text(l), e)
		}
		p, e := view.Pole(conic(x[0]), triple(x[2]))
		check(t, "Pole of "+x[0]+", "+x[2], p, e, triple(x[1]))
	}
	l, e := view.Polar(conic("0 0 0 0 0 1"), triple("0 0 1"))
	flat(t, "Polar of the point of two lines", l, e)
	l, e = view.Polar(conic("1 0 0 0 0 0"), triple("0 2 1"))
	flat(t, "Polar of a point of a line", l, e)
	if l, e := view.Polar(conic("0 0 0 0 0 1"), triple("0 2 1")); text(l) != "1 0 0" || e != api.OK {
		t.Errorf("Polar of another point of two lines: %s, %d", text(l), e)
	}
	for _, c := range []string{"0 0 0 0 0 1", "1 0 0 0 0 0", "1 1 1 2 2 2", "1 1 0 0 0 0"} {
		p, e := view.Pole(conic(c), triple("1 2 3"))
		flat(t, "Pole of what is not smooth", p, e)
	}
}

// P6.5: Polar and Pole, by the definition.
func TestPolar(t *testing.T) {
	s := newSource(72)
	blank := 0
	for range 2000 {
		c, p := s.conic(), s.triple()
		if s.Intn(3) == 0 {
			l := s.small()
			k := s.small()
			c = lines(l, k)
			if both, e := view.Join(l, k); e == api.OK && s.Intn(2) == 0 {
				p = both
			}
		}
		want := taken(matrixOf(c), p)
		l, e := view.Polar(c, p)
		if want[0].Sign() == 0 && want[1].Sign() == 0 && want[2].Sign() == 0 {
			flat(t, "Polar", l, e)
			blank++
		} else {
			check(t, "Polar", l, e, want)
		}
		q, e := view.Pole(c, p) // of the line p
		if !isSmooth(c) {
			flat(t, "Pole", q, e)
		} else if e != api.OK || !isNormal(q) || !same(taken(matrixOf(c), q), p) {
			t.Fatalf("Pole of %s, %s: %s, %d", text(c), text(p), text(q), e)
		}
	}
	if blank < 20 {
		t.Fatalf("Polar: only %d have none", blank)
	}
}

// P6.5: Second.
func TestSecondCases(t *testing.T) {
	circle := "1 1 -1 0 0 0"
	for _, x := range [][4]string{
		{circle, "1 0 1", "1 1 -1", "0 1 1"}, {circle, "0 1 1", "1 1 -1", "1 0 1"}, {circle, "1 0 1", "0 1 0", "1 0 -1"},
		{circle, "1 0 1", "1 0 -1", "1 0 1"}, {circle, "-3 4 5", "3 -4 5", "1 -4/3 -5/3"}, // polars, which meet the circle once
		{circle, "1 0 -1", "1 -2 1", "1 4/3 5/3"}, // y = (x + z) / 2: x = 3/5, y = 4/5
		{"1 0 0 -1 0 0", "0 1 0", "1 0 -3", "1 3 1/3"}, {"1 0 0 -1 0 0", "0 1 0", "0 0 1", "0 1 0"},
		{"0 0 0 1 -4 3", "1 0 0", "0 1 0", "0 0 1"}, {"0 0 0 1 -4 3", "1 0 0", "0 1 -1", "1 1 1"},
	} {
		if p, e := view.Second(conic(x[0]), triple(x[1]), triple(x[2])); text(p) != x[3] || e != api.OK {
			t.Errorf("Second of %s, %s, %s: %s, %d", x[0], x[1], x[2], text(p), e)
		}
	}
	for _, x := range [][3]string{
		{circle, "1 1 1", "1 -1 0"}, {circle, "1 0 1", "1 0 0"}, {circle, "1 0 1", "1 0 1"}, // p not on c, not on l
		{"0 0 0 0 0 1", "1 0 0", "0 1 0"}, {"0 0 0 0 0 1", "0 0 1", "1 1 0"}, {"1 0 0 0 0 0", "0 1 0", "0 0 1"}, // not smooth
		{"1 -1 0 0 0 0", "1 1 0", "1 -1 0"}, // a line of the conic
	} {
		p, e := view.Second(conic(x[0]), triple(x[1]), triple(x[2]))
		flat(t, "Second of "+x[0]+", "+x[1]+", "+x[2], p, e)
	}
}

// P6.5: Moved.
func TestMovedCases(t *testing.T) {
	circle := conic("1 1 -1 0 0 0")
	for _, x := range [][2]string{
		{"1 0 0  0 1 0  0 0 1", "1 1 -1 0 0 0"},
		{"2 0 0  0 1 0  0 0 1", "1 4 -4 0 0 0"},      // x / 2: x x / 4 + y y = z z
		{"1 0 1  0 1 0  0 0 1", "1 1 0 0 -2 0"},      // to the right by 1: (x - z)(x - z) + y y = z z
		{"1 0 0  0 1 -2  0 0 1", "1 1 3 4 0 0"},      // down by 2: x x + (y + 2 z)(y + 2 z) = z z
		{"0 0 1  0 1 0  1 0 0", "1 -1 -1 0 0 0"},     // x and z change places
		{"1 0 0  1 1 0  0 0 1", "1 1/2 -1/2 0 0 -1"}, // y is y - x before: 2 x x - 2 x y + y y = z z
	} {
		if c, e := view.Moved(circle, matrix(x[0])); text(c) != x[1] || e != api.OK {
			t.Errorf("Moved by %s: %s, %d", x[0], text(c), e)
		}
	}
	if c, e := view.Moved(conic("0 0 0 3 0 0"), matrix("0 1 0  0 0 1  1 0 0")); text(c) != "0 0 0 0 0 1" || e != api.OK { // y z, x taken to where z is
		t.Errorf("Moved: %s, %d", text(c), e)
	}
}

// P6.5: Moved, by the definition: the point to which a map takes p is on it just if p is on the conic; it is one conic times a number, as the values at all points are.
func TestMoved(t *testing.T) {
	s := newSource(73)
	for range 500 {
		c, m := s.conic(), s.matrix()
		moved, e := view.Moved(c, m)
		if e != api.OK || !isNormal(moved) {
			t.Fatalf("Moved of %s, %s: %s, %d", text(c), text(m), text(moved), e)
		}
		var before, after []*big.Rat
		for range 7 {
			p := s.triple()
			before = append(before, product(toBig(c[:]...), monomials(p)))
			after = append(after, product(toBig(moved[:]...), monomials(taken(m, p))))
		}
		before, after = append(before, new(big.Rat)), append(after, new(big.Rat))
		for i := range before {
			if (before[i].Sign() == 0) != (after[i].Sign() == 0) {
				t.Fatalf("Moved of %s, %s: %s", text(c), text(m), text(moved))
			}
		}
		if rank(before, after) > 1 {
			t.Fatalf("Moved of %s, %s: %s", text(c), text(m), text(moved))
		}
	}
}
