package view_test

import (
	"testing"

	"rabbet/api"
	"rabbet/frac"
	"rabbet/view"
)

// line is n different points of a line, which is not specified.
func (s source) line(n int) []view.Triple {
	var out []view.Triple
	p, q := s.small(), s.small()
	for same(p, q) {
		q = s.small()
	}
	for len(out) < n {
		m, n := s.number(), s.number()
		if m.Sign() == 0 && n.Sign() == 0 {
			continue
		}
		if r := combined(m, p, n, q); differ(append(out, r)...) {
			out = append(out, r)
		}
	}
	return out
}

// curve is a smooth conic and n different points of it: what a map makes of x x = y z.
func (s source) curve(n int) (view.Conic, []view.Triple) {
	m := s.smallMap()
	var out []view.Triple
	for len(out) < n {
		x, z := frac.Of(s.Int63n(9)-4), frac.Of(s.Int63n(4))
		if x.Sign() == 0 && z.Sign() == 0 {
			continue
		}
		p := taken(m, view.Triple{must(x.Mul(z)), must(x.Mul(x)), must(z.Mul(z))})
		if differ(append(out, p)...) {
			out = append(out, p)
		}
	}
	return must(view.Moved(conic("1 0 0 -1 0 0"), m)), out
}

// frame is four points in general position.
func (s source) frame() [4]view.Triple {
	for {
		l := [4]view.Triple{s.small(), s.small(), s.small(), s.small()}
		if inGeneral(l[:]...) {
			return l
		}
	}
}

// image is what a map makes of points.
func image(m view.Map, points ...view.Triple) []view.Triple {
	var out []view.Triple
	for _, p := range points {
		out = append(out, must(view.Apply(m, p)))
	}
	return out
}

// P6.7: maps keep ratios, and what is on what.
func TestMapsKeep(t *testing.T) {
	s := newSource(76)
	for range 300 {
		m := s.smallMap()
		p := s.line(4)
		q := image(m, p...)
		before, isInfinite, e := view.Ratio(p[0], p[1], p[2], p[3])
		after, infinite, f := view.Ratio(q[0], q[1], q[2], q[3])
		if before.Cmp(after) != 0 || infinite != isInfinite || e != api.OK || f != api.OK {
			t.Fatalf("%s: ratios %s, %t, %d and %s, %t, %d", text(m), before, isInfinite, e, after, infinite, f)
		}
		l := must(view.Join(p[0], p[1]))
		k, e := view.ApplyLine(m, l)
		check(t, "ApplyLine", k, e, must(view.Join(q[0], q[1])))
		for _, r := range append(p, s.small(), s.small()) {
			if is, e := view.On(image(m, r)[0], k); is != isOn(r, l) || e != api.OK {
				t.Fatalf("%s, %s: %s, %t, %d", text(m), text(l), text(r), is, e)
			}
		}
		three := []view.Triple{p[0], p[2], s.small()}
		if is, e := view.General(image(m, three...)); is != inGeneral(three...) || e != api.OK {
			t.Fatalf("%s: General of %v: %t, %d", text(m), three, is, e)
		}
	}
}

// P6.7: maps keep what is on conics, which ones are smooth, and polars.
func TestMapsKeepConics(t *testing.T) {
	s := newSource(77)
	for range 200 {
		m := s.smallMap()
		c, points := s.curve(3)
		if s.Intn(2) == 0 {
			c = lines(must(view.Join(points[0], points[1])), s.small())
		}
		moved := must(view.Moved(c, m))
		if is, e := view.Smooth(moved); is != isSmooth(c) || e != api.OK {
			t.Fatalf("%s, %s: Smooth: %t, %d", text(c), text(m), is, e)
		}
		for _, p := range append(points, s.small()) {
			q := must(view.Apply(m, p))
			if is, e := view.OnConic(moved, q); is != isOnConic(c, p) || e != api.OK {
				t.Fatalf("%s, %s: %s, %t, %d", text(c), text(m), text(p), is, e)
			}
			polar, e := view.Polar(moved, q)
			if l, f := view.Polar(c, p); f == api.OK {
				check(t, "Polar", polar, e, must(view.ApplyLine(m, l)))
			} else {
				flat(t, "Polar", polar, e)
			}
		}
		back, e := view.Moved(moved, must(view.Back(m)))
		check(t, "Moved and back", back, e, c)
	}
}

// P6.7: there is just one map for four points and their images, and maps that are done one after the other, or undone, are those of the points.
func TestOneMap(t *testing.T) {
	s := newSource(78)
	for range 200 {
		m, a, b, c := s.smallMap(), s.frame(), s.frame(), s.frame()
		again, e := view.FromFour(a, [4]view.Triple(image(m, a[:]...)))
		check(t, "FromFour", again, e, m)
		first, second := must(view.FromFour(a, b)), must(view.FromFour(b, c))
		both, e := view.After(second, first)
		check(t, "After", both, e, must(view.FromFour(a, c)))
		back, e := view.Back(first)
		check(t, "Back", back, e, must(view.FromFour(b, a)))
		none, e := view.After(back, first)
		check(t, "After of Back", none, e, matrix("1 0 0  0 1 0  0 0 1"))
		p := s.small()
		there, e := view.Apply(back, must(view.Apply(first, p)))
		check(t, "there and back", there, e, p)
		line, e := view.ApplyLine(back, must(view.ApplyLine(first, p)))
		check(t, "there and back of a line", line, e, p)
	}
}

// P6.7: there is just one conic for five points of one that is smooth, whichever they are.
func TestOneConic(t *testing.T) {
	s := newSource(79)
	for range 300 {
		c, points := s.curve(5)
		again, e := view.Through([5]view.Triple(points))
		check(t, "Through", again, e, c)
	}
	for range 300 { // or of two lines
		l, k := s.line(3), s.line(2)
		points := [5]view.Triple(append(l, k...))
		if !hasConic(points) {
			continue
		}
		c, e := view.Through(points)
		check(t, "Through points of two lines", c, e, lines(must(view.Join(l[0], l[1])), must(view.Join(k[0], k[1]))))
	}
}

// hasLine fails unless the opposite sides of the hexagon meet on a line.
func hasLine(t *testing.T, points [6]view.Triple) {
	t.Helper()
	line, e := view.Hexagon(points)
	three, ok := meets(points)
	if e != api.OK || !ok {
		t.Fatalf("Hexagon of %v: %d, %t", points, e, ok)
	}
	for _, p := range three {
		if !isOn(p, line) {
			t.Fatalf("Hexagon of %v: %s is not through %s", points, text(line), text(p))
		}
	}
}

// P6.8: Pascal.
func TestPascal(t *testing.T) {
	s := newSource(80)
	for range 300 {
		_, points := s.curve(6)
		hasLine(t, [6]view.Triple(points))
	}
	_, points := s.curve(6)
	var all func(done int)
	all = func(done int) { // all orders of one hexagon
		if done == len(points) {
			hasLine(t, [6]view.Triple(points))
		}
		for i := done; i < len(points); i++ {
			points[done], points[i] = points[i], points[done]
			all(done + 1)
			points[done], points[i] = points[i], points[done]
		}
	}
	all(0)
}

// P6.8: Pappus.
func TestPappus(t *testing.T) {
	s := newSource(81)
	n := 0
	for n < 500 {
		a, b := s.line(3), s.line(3)
		l, k := must(view.Join(a[0], a[1])), must(view.Join(b[0], b[1]))
		if same(l, k) {
			continue
		}
		onBoth := false
		for i := range 3 {
			onBoth = onBoth || isOn(a[i], k) || isOn(b[i], l)
		}
		if !onBoth {
			hasLine(t, [6]view.Triple{a[0], b[0], a[1], b[1], a[2], b[2]})
			n++
		}
	}
}

// P6.8: Desargues. Half of the triangles are seen from one point.
func TestDesargues(t *testing.T) {
	s := newSource(82)
	found := map[bool]int{}
	for i := range 3000 {
		a := [3]view.Triple{s.small(), s.small(), s.small()}
		b := [3]view.Triple{s.small(), s.small(), s.small()}
		if i%2 == 0 {
			eye := s.small()
			for j, p := range a {
				b[j] = combined(s.nonzero(), eye, s.number(), p)
			}
		}
		joins, sides, ok := perspective(a, b)
		if !ok {
			continue
		}
		concurrent, collinear := rankOf(joins...) < 3, rankOf(sides...) < 3
		found[concurrent]++
		if concurrent != collinear {
			t.Fatalf("triangles %v, %v: %t, %t", a, b, concurrent, collinear)
		}
	}
	if min(found[true], found[false]) < 500 {
		t.Fatalf("too few triangles of a kind: %v", found)
	}
}

// perspective is the joins of points, and the points where sides meet, of two triangles; false if they are none, or have something in common.
func perspective(a, b [3]view.Triple) (joins, sides []view.Triple, ok bool) {
	if rankOf(a[:]...) < 3 || rankOf(b[:]...) < 3 {
		return nil, nil, false
	}
	for i := range 3 {
		join, e := view.Join(a[i], b[i])
		side, other := must(view.Join(a[i], a[(i+1)%3])), must(view.Join(b[i], b[(i+1)%3]))
		meet, f := view.Join(side, other)
		if e != api.OK || f != api.OK {
			return nil, nil, false
		}
		joins, sides = append(joins, join), append(sides, meet)
	}
	return joins, sides, true
}

// P6.9: a point is on the polar of another one just if the other one is on its own.
func TestPolesOfEachOther(t *testing.T) {
	s := newSource(83)
	found := map[bool]int{}
	for range 1000 {
		c := view.Conic{s.number(), s.number(), s.number(), s.number(), s.number(), s.number()}
		if s.Intn(3) == 0 {
			c = lines(s.small(), s.small())
		}
		p, q := s.small(), s.small()
		l, e := view.Polar(c, p)
		if e == api.OK && s.Intn(2) == 0 {
			if q, e = view.Join(l, q); e != api.OK { // a point of the polar
				continue
			}
		}
		k, f := view.Polar(c, q)
		if e != api.OK || f != api.OK {
			continue
		}
		there, e := view.On(q, l)
		back, f := view.On(p, k)
		found[there]++
		if there != back || e != api.OK || f != api.OK {
			t.Fatalf("%s: %s, %s: %t, %d, %t, %d", text(c), text(p), text(q), there, e, back, f)
		}
		if isSmooth(c) {
			pole, e := view.Pole(c, l)
			check(t, "Pole of a polar", pole, e, p)
		}
	}
	if min(found[true], found[false]) < 100 {
		t.Fatalf("too few polars of a kind: %v", found)
	}
}

// P6.9: a point of a smooth conic is on its own polar, which meets the conic nowhere else. P6.5: Second finds the other point of each other line.
func TestTangents(t *testing.T) {
	s := newSource(84)
	for range 200 {
		c, points := s.curve(5)
		p := points[0]
		polar := must(view.Polar(c, p))
		if is, e := view.On(p, polar); !is || e != api.OK {
			t.Fatalf("%s: %s is not on its polar %s, %d", text(c), text(p), text(polar), e)
		}
		same, e := view.Second(c, p, polar)
		check(t, "Second of a polar", same, e, p)
		for _, q := range points[1:] {
			if isOn(q, polar) {
				t.Fatalf("%s: %s is on the polar of %s", text(c), text(q), text(p))
			}
			other, e := view.Second(c, s.times(p), must(view.Join(p, q)))
			check(t, "Second", other, e, q)
		}
		l, e := view.Join(p, s.small())
		if e != api.OK {
			continue
		}
		other, e := view.Second(c, p, l)
		if e != api.OK || !isNormal(other) || !isOn(other, l) || !isOnConic(c, other) {
			t.Fatalf("Second of %s, %s, %s: %s, %d", text(c), text(p), text(l), text(other), e)
		}
		if isTangent := isOn(p, l) && rankOf(l, polar) == 1; isTangent != (rankOf(other, p) == 1) {
			t.Fatalf("Second of %s, %s, %s: %s", text(c), text(p), text(l), text(other))
		}
	}
}

// P6.5: Second looks at whether the point is on the conic and on the line.
func TestSecondErrors(t *testing.T) {
	s := newSource(85)
	for range 300 {
		c, points := s.curve(2)
		p, q, off := points[0], points[1], s.small()
		l := must(view.Join(p, q))
		if !isOnConic(c, off) {
			if k, e := view.Join(off, p); e == api.OK {
				r, e := view.Second(c, off, k)
				flat(t, "Second of a point beside the conic", r, e)
			}
		}
		if !isOn(p, off) {
			r, e := view.Second(c, p, off)
			flat(t, "Second of a line beside the point", r, e)
		}
		r, e := view.Second(lines(l, off), p, l)
		flat(t, "Second of two lines", r, e)
		r, e = view.Second(lines(l, off), p, must(view.Join(p, s.other(p))))
		flat(t, "Second of two lines, and another one", r, e)
	}
}

// other is another point than p.
func (s source) other(p view.Triple) view.Triple {
	for {
		if q := s.small(); !same(p, q) {
			return q
		}
	}
}
