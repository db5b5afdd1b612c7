package span_test

import (
	"slices"
	"strings"
	"testing"

	"rabbet/api"
	"rabbet/frac"
	"rabbet/span"
)

// inOrWall checks In and Wall by the definitions, and returns whether p is in the hull.
func inOrWall(t *testing.T, list [][]int64, p []int64) bool {
	t.Helper()
	w, in, e := span.In(list, p)
	h, out, f := span.Wall(list, p)
	if e != api.OK || f != api.OK || in == out {
		t.Fatalf("In of %v in %v: %t, %d; Wall: %t, %d", p, list, in, e, out, f)
	}
	if in {
		if !makes(list, w, fractions(p)) || used(w) > len(p)+1 || !span.Makes(list, w, fractions(p)) {
			t.Fatalf("In of %v in %v: %s", p, list, text(w))
		}
		zero(t, "Wall", h.Normal)
		if h.Least.Sign() != 0 {
			t.Fatalf("Wall: %s", textOfHalf(h))
		}
		return true
	}
	if !isWall(list, [][]int64{p}, h) || !span.IsWall(list, [][]int64{p}, h) {
		t.Fatalf("Wall of %v and %v: %s", list, p, textOfHalf(h))
	}
	zero(t, "In", w)
	return false
}

// P8.2: example 1 of the chapter.
func TestHullExamples(t *testing.T) {
	list := points("0 0, 4 0, 0 4")
	w, ok, e := span.In(list, []int64{1, 1})
	if !ok || e != api.OK || text(w) != "1/2 1/4 1/4" { // the only ones
		t.Errorf("In: %s, %t, %d", text(w), ok, e)
	}
	if !span.IsWall(list, points("3 3"), half("-1 -1 -4")) {
		t.Errorf("IsWall")
	}
	if inOrWall(t, list, []int64{3, 3}) {
		t.Errorf("(3, 3) is in the hull")
	}
}

// P8.2: on a line, the hull is all between the least and the greatest point.
func TestLine(t *testing.T) {
	for n := 1; n <= 4; n++ {
		eachList(n, 1, -2, 2, func(list [][]int64) {
			for x := int64(-3); x <= 3; x++ {
				want := list[0][0] <= x && x <= list[n-1][0]
				if in := inOrWall(t, list, []int64{x}); in != want {
					t.Fatalf("In of %d in %v: %t", x, list, in)
				}
			}
		})
	}
}

// P8.2: all lists of up to four points of a small grid.
func TestPlane(t *testing.T) {
	for n := 1; n <= 4; n++ {
		eachList(n, 2, 0, 2, func(list [][]int64) {
			for x := int64(-1); x <= 2; x++ {
				for y := int64(0); y <= 2; y++ {
					p := []int64{x, y}
					if in := inOrWall(t, list, p); in != inHull(list, whole(p)) {
						t.Fatalf("In of %v in %v: %t", p, list, in)
					}
				}
			}
		})
	}
}

// P8.2, P8.7: points of all kinds, and some that are known to be in the hull.
func TestHulls(t *testing.T) {
	r := newRand(4)
	for d := 1; d <= 4; d++ {
		ins, outs := 0, 0
		for i := range 600 {
			list := mixed(r, 1+r.Intn(12), d)
			p := mixed(r, 1, d)[0]
			switch i % 4 {
			case 0:
				p = slices.Clone(list[r.Intn(len(list))])
			case 1: // the middle of two points, if it is whole
				a, b := list[r.Intn(len(list))], list[r.Intn(len(list))]
				for k := range p {
					p[k] = (a[k] + b[k]) / 2
				}
			}
			if inOrWall(t, list, p) {
				ins++
			} else {
				outs++
				if i%4 == 0 {
					t.Fatalf("%v is not in the hull of %v", p, list)
				}
			}
		}
		if ins < 100 || outs < 100 {
			t.Errorf("dimension %d: %d in hulls, %d not", d, ins, outs)
		}
	}
}

// P8.2: the middle of a cross of 2 d points needs two of them; that of a simplex all d + 1.
func TestFewWeights(t *testing.T) {
	for d := 1; d <= 4; d++ {
		var cross, simplex [][]int64
		corner := make([]int64, d)
		for k := range d {
			p, q := make([]int64, d), make([]int64, d)
			p[k], q[k] = limit, -limit
			cross = append(cross, p, q)
			corner[k] = -1
			s := make([]int64, d)
			s[k] = int64(k + 1)
			simplex = append(simplex, s)
		}
		simplex = append(simplex, corner)
		at := make([]int64, d)
		if !inOrWall(t, cross, at) || !inOrWall(t, simplex, at) {
			t.Errorf("dimension %d: the middle is not in the hull", d)
		}
		if w, _, _ := span.In(simplex, at); used(w) != d+1 {
			t.Errorf("In: %s", text(w))
		}
	}
}

// P8.2: Makes, by hand.
func TestMakes(t *testing.T) {
	list := points("0 0, 4 0, 0 4, 4 4")
	for _, x := range []struct {
		weights, p string
		want       bool
	}{
		{"1/4 1/4 1/4 1/4", "2 2", true},
		{"1/2 0 0 1/2", "2 2", true},
		{"0 1 0 0", "4 0", true},
		{"1/3 1/3 1/3 0", "4/3 4/3", true},
		{"1/3 1/3 1/3 0", "4/3 1", false},
		{"1/3 1/3 1/3 0", "1 4/3", false},
		{"1 1 -1 0", "4 -4", false}, // a weight below 0
		{"2 -1 -1 1", "0 0", false}, // two, and the sum is 1
		{"0 0 0 0", "0 0", false},   // the sum is not 1
		{"1/2 0 0 0", "0 0", false},
		{"1 0 0 1/2", "2 2", false},
		{"1 0 0", "0 0", false},
		{"1 0 0 0 0", "0 0", false},
		{"", "0 0", false},
		{"1 0 0 0", "0", false},
		{"0 1/4 1/4 1/2", "3", false}, // they make (3, 3)
		{"1 0 0 0", "0 0 0", false},
		{"1 0 0 0", "", false},
	} {
		if is := span.Makes(list, numbers(x.weights), numbers(x.p)); is != x.want {
			t.Errorf("Makes of %s, %s: %t", x.weights, x.p, is)
		}
	}
	if span.Makes(points("1 1"), numbers("1"), numbers("1")) {
		t.Errorf("Makes of a point of another dimension")
	}
	faulty(func(list [][]int64, _ api.Errno) {
		if len(list) > 0 && len(list) < 100 {
			w := make([]frac.Rat, len(list))
			w[0] = frac.Of(1)
			if span.Makes(list, w, fractions(list[0])) {
				t.Errorf("Makes of %v", list)
			}
		}
		if span.Makes(list, nil, nil) {
			t.Errorf("Makes of %v, with no weights", list)
		}
	})
}

// P8.1, P8.2: weights and points have up to 1000 digits.
func TestMakesDigits(t *testing.T) {
	for _, n := range []int{61, 999, 1000, 1001} {
		x := must(frac.Parse("1/" + nines(n)))
		y := must(frac.Of(1).Sub(x))
		if is := span.Makes(points("5, 5"), []frac.Rat{x, y}, numbers("5")); is != (n <= 1000) {
			t.Errorf("Makes of weights with %d digits: %t", n, is)
		}
		if is := span.Makes(points("0, 1"), []frac.Rat{y, x}, []frac.Rat{x}); is != (n <= 1000) {
			t.Errorf("Makes of weights and a point with %d digits: %t", n, is)
		}
	}
	// Weights of about n digits make a point of 2 n.
	half := must(frac.Make(1, 2))
	for _, n := range []int{400, 500, 501} {
		a, b := must(frac.Parse("1/1"+strings.Repeat("0", n))), must(frac.Parse("1/"+nines(n)))
		p := must(a.Add(b))
		if digits(p) != 2*n {
			t.Fatalf("%d digits", digits(p))
		}
		w := []frac.Rat{a, must(half.Sub(a)), b, must(half.Sub(b))}
		if is := span.Makes(points("1, 0, 1, 0"), w, []frac.Rat{p}); is != (n <= 500) {
			t.Errorf("Makes of a point with %d digits: %t", 2*n, is)
		}
	}
}

// P8.2: Makes of right weights, and of such as are nearly right, by the definition.
func TestMakesRandom(t *testing.T) {
	r := newRand(5)
	right := 0
	for range 2000 {
		d := 1 + r.Intn(4)
		list := mixed(r, 1+r.Intn(12), d)
		var w []frac.Rat
		rest := frac.Of(1)
		for range len(list) - 1 {
			x := must(frac.Make(r.Int63n(3), 2+r.Int63n(9)))
			if y := must(rest.Sub(x)); y.Sign() >= 0 {
				rest = y
			} else {
				x = frac.Of(0)
			}
			w = append(w, x)
		}
		w = append(w, rest)
		r.Shuffle(len(w), func(i, j int) { w[i], w[j] = w[j], w[i] })
		var p []frac.Rat
		for _, x := range made(list, toBig(w)) {
			p = append(p, must(frac.Parse(x.RatString())))
		}
		switch at := r.Intn(len(w)); r.Intn(6) {
		case 0:
			w[at] = must(w[at].Add(frac.Of(1)))
		case 1:
			w[at] = w[at].Neg()
		case 2:
			p[r.Intn(d)] = small(r, 5)
		}
		want := makes(list, w, p)
		if want {
			right++
		}
		if is := span.Makes(list, w, p); is != want {
			t.Fatalf("Makes of %v, %s, %s: %t", list, text(w), text(p), is)
		}
	}
	if right < 500 || right > 1900 {
		t.Errorf("%d are right", right)
	}
}

// P8.2: IsWall, by hand.
func TestIsWall(t *testing.T) {
	for _, x := range []struct {
		list, others, wall string
		want               bool
	}{
		{"0, 1", "2", "-1 -1", true},
		{"0, 1", "2", "-1 -2", false},               // it contains 2 as well
		{"0, 1", "2", "-1 -1/2", false},             // 1 is not in it
		{"0, 1", "2", "-1 -" + "199/100", true},     // not 2
		{"0, 1", "2, 3", "-1 -1", true},             // both others are out of it
		{"0, 1", "2, 0", "-1 -1", false},            // one of them is in it
		{"2, 3", "0, 1", "1 2", true},               // the other way round
		{"0, 1", "2", "1 2", false},                 // so is this
		{"0, 1", "2", "0 0", false},                 // all
		{"0, 1", "2", "0 1", false},                 // nothing
		{"0 0, 4 0, 0 4", "3 3", "-1 -1 -4", true},  // the edge is on the hull
		{"0 0, 4 0, 0 4", "3 3", "-1 -1 -5", true},  // between
		{"0 0, 4 0, 0 4", "3 3", "-1 -1 -6", false}, // the edge is on the point
		{"0 0, 4 0, 0 4", "3 3", "-1 -1 -39/10", false},
		{"0 0, 4 0, 0 4", "3 3", "-1/3 -1/3 -5/3", true},
		{"0 0, 4 0, 0 4", "3 3", "-1 -5", false}, // other dimensions
		{"0 0, 4 0, 0 4", "5 5", "-1 -4", false},
		{"0 0, 4 0, 0 4", "3 3", "-1 -1 0 -5", false},
		{"0 0, 4 0, 0 4", "3 3", "-5", false},
		{"0 0, 4 0, 0 4", "3", "-1 -1 -5", false},
		{"0 0, 4 0, 0 4", "3 3 3", "-1 -1 -5", false},
		{"1 2 3 4", "1 2 3 5", "0 0 0 -1 -4", true},
		{"1 2 3 4", "1 2 3 4", "0 0 0 -1 -4", false},
		{"0", "1", "-1000000000 -1", true}, // more digits than CheckHalf takes
	} {
		if is := span.IsWall(points(x.list), points(x.others), half(x.wall)); is != x.want {
			t.Errorf("IsWall of %s, %s, %s: %t", x.list, x.others, x.wall, is)
		}
	}
	faulty(func(list [][]int64, _ api.Errno) {
		for d := range 6 {
			all, none := span.Half{Normal: make([]frac.Rat, d)}, span.Half{Normal: make([]frac.Rat, d), Least: frac.Of(1)}
			if d > 0 {
				all.Normal[0], none.Normal[0] = frac.Of(-1), frac.Of(-1)
				all.Least = frac.Of(-limit)
			}
			good := some(newRand(int64(d)), 3, max(1, min(d, 4)), 5)
			for _, h := range []span.Half{all, none} {
				if span.IsWall(list, good, h) || span.IsWall(good, list, h) || span.IsWall(list, list, h) {
					t.Errorf("IsWall of %v, %v, %s", list, good, textOfHalf(h))
				}
			}
		}
	})
}

// P8.1: an error of a list makes IsWall and Makes false even where all else is right.
func TestFalseForErrors(t *testing.T) {
	at := func(n int64, times int) [][]int64 { return slices.Repeat([][]int64{{n}}, times) }
	for _, x := range []struct {
		list, others [][]int64
		want         bool
	}{
		{at(0, 12), at(1, 12), true},
		{at(0, 13), at(1, 12), false},
		{at(0, 12), at(1, 13), false},
		{at(-limit, 1), at(limit, 1), true},
		{at(-limit-1, 1), at(limit, 1), false},
		{at(-limit, 1), at(limit+1, 1), false},
		{at(0, 1), nil, false},
		{nil, at(1, 1), false},
	} {
		if is := span.IsWall(x.list, x.others, half("-1 0")); is != x.want {
			t.Errorf("IsWall of %v, %v: %t", x.list, x.others, is)
		}
	}
	for n, want := range map[int]bool{1: true, 12: true, 13: false} {
		w := append(make([]frac.Rat, n-1), frac.Of(1))
		if is := span.Makes(at(5, n), w, numbers("5")); is != want {
			t.Errorf("Makes of %d points: %t", n, is)
		}
	}
	if span.Makes(at(limit+1, 1), numbers("1"), numbers("1000001")) {
		t.Errorf("Makes of a point that is out of range")
	}
}

// P8.1: the half-space of IsWall has up to 1000 digits.
func TestIsWallDigits(t *testing.T) {
	for _, n := range []int{7, 999, 1000, 1001} {
		for _, wall := range []string{"-" + nines(n) + " -1", "-1 -1/" + nines(n), "-1/" + nines(n) + " 0", "-1" + nines(n-1) + " -" + nines(n-1)} {
			if is := span.IsWall(points("0"), points("1"), half(wall)); is != (n <= 1000) {
				t.Errorf("IsWall of %d digits: %t", n, is)
			}
		}
	}
}

// P8.2: IsWall of right walls, and of such as are nearly right, by the definition.
func TestIsWallRandom(t *testing.T) {
	r := newRand(6)
	right := 0
	for range 3000 {
		d := 1 + r.Intn(4)
		list, others := mixed(r, 1+r.Intn(5), d), mixed(r, 1+r.Intn(2), d)
		h, ok, _ := span.Between(list, others)
		if !ok {
			h = someHalves(r, 1, d, 3)[0]
		}
		switch r.Intn(5) {
		case 0:
			h.Least = must(h.Least.Add(small(r, 3)))
		case 1:
			h.Normal[r.Intn(d)] = small(r, 3)
		}
		want := isWall(list, others, h)
		if want {
			right++
		}
		if is := span.IsWall(list, others, h); is != want {
			t.Fatalf("IsWall of %v, %v, %s: %t", list, others, textOfHalf(h), is)
		}
	}
	if right < 500 || right > 2500 {
		t.Errorf("%d are right", right)
	}
}

// commonOrWall checks Common and Between by the definitions, and returns whether the hulls have a point in common.
func commonOrWall(t *testing.T, a, b [][]int64) bool {
	t.Helper()
	v, w, common, e := span.Common(a, b)
	h, apart, f := span.Between(a, b)
	if e != api.OK || f != api.OK || common == apart {
		t.Fatalf("Common of %v, %v: %t, %d; Between: %t, %d", a, b, common, e, apart, f)
	}
	if common {
		if len(v) != len(a) || len(w) != len(b) || !areWeights(toBig(v)) || !areWeights(toBig(w)) || !equal(made(a, toBig(v)), made(b, toBig(w))) {
			t.Fatalf("Common of %v, %v: %s; %s", a, b, text(v), text(w))
		}
		zero(t, "Between", h.Normal)
		if h.Least.Sign() != 0 {
			t.Fatalf("Between: %s", textOfHalf(h))
		}
		var p []frac.Rat
		for _, x := range made(a, toBig(v)) {
			p = append(p, must(frac.Parse(x.RatString())))
		}
		if !span.Makes(a, v, p) || !span.Makes(b, w, p) {
			t.Fatalf("Makes of %v, %v: false", a, b)
		}
		return true
	}
	if !isWall(a, b, h) || !span.IsWall(a, b, h) {
		t.Fatalf("Between of %v, %v: %s", a, b, textOfHalf(h))
	}
	zero(t, "Common", v)
	zero(t, "Common", w)
	return false
}

// P8.3: on a line, hulls meet if neither is behind the other one.
func TestCommonLine(t *testing.T) {
	for n := 1; n <= 3; n++ {
		eachList(n, 1, 0, 4, func(a [][]int64) {
			eachList(2, 1, 0, 4, func(b [][]int64) {
				want := a[0][0] <= b[1][0] && b[0][0] <= a[n-1][0]
				if is := commonOrWall(t, a, b); is != want {
					t.Fatalf("Common of %v, %v: %t", a, b, is)
				}
			})
		})
	}
}

// P8.3: segments of the plane that cross, touch, overlap or miss each other.
func TestCommonSegments(t *testing.T) {
	for _, x := range []struct {
		a, b string
		want bool
	}{
		{"0 0, 2 2", "2 0, 0 2", true},
		{"0 0, 2 2", "2 2, 3 0", true},
		{"0 0, 2 2", "1 1, 3 0", true},
		{"0 0, 2 2", "1 1, 3 3", true},
		{"0 0, 2 2", "3 3, 4 4", false},
		{"0 0, 2 2", "1 0, 3 2", false},
		{"0 0, 2 2", "2 1, 3 0", false},
		{"0 0", "0 0", true},
		{"0 0", "0 1", false},
		{"0 0, 6 0, 0 6", "1 1, 2 2", true},
		{"0 0, 6 0, 0 6", "4 4, 5 5, 4 5", false},
		{"0 0, 6 0, 0 6", "3 3, 5 5, 4 5", true},
		{"0 0 0, 2 2 2", "2 0 0, 0 2 2", true},
		{"0 0 0, 2 2 2", "2 0 1, 0 2 2", false},
		{"0 0 0, 6 0 0, 0 6 0", "1 1 -1, 1 1 1", true},
		{"0 0 0, 6 0 0, 0 6 0", "4 4 -1, 4 4 1", false},
		{"0 0 0 0, 2 2 0 0, 2 0 2 0", "1 1 1 1, 2 1 1 1", false},
		{"0 0 0 0, 2 2 0 0, 2 0 2 0", "1 1 1 1, 2 1 1 0", true},
		{"1000000 1000000, -1000000 -1000000", "999999 1000000, 999999 -1000000", true},
		{"1000000 1000000, -1000000 -1000000", "999999 1000000, 999998 999999", false},
	} {
		if is := commonOrWall(t, points(x.a), points(x.b)); is != x.want {
			t.Errorf("Common of %s and %s: %t", x.a, x.b, is)
		}
		if is := commonOrWall(t, points(x.b), points(x.a)); is != x.want {
			t.Errorf("Common of %s and %s: %t", x.b, x.a, is)
		}
	}
}

// P8.3, P8.7: lists of all kinds.
func TestCommon(t *testing.T) {
	r := newRand(7)
	for d := 1; d <= 4; d++ {
		commons, walls := 0, 0
		for i := range 500 {
			a, b := mixed(r, 1+r.Intn(12), d), mixed(r, 1+r.Intn(12), d)
			if i%3 == 0 { // lists of few points, next to each other
				a, b = some(r, 1+r.Intn(d+1), d, 4), some(r, 1+r.Intn(d+1), d, 4)
			}
			if commonOrWall(t, a, b) {
				commons++
			} else {
				walls++
			}
		}
		if commons < 100 || walls < 50 {
			t.Errorf("dimension %d: %d have common points, %d have not", d, commons, walls)
		}
	}
}

// P8.2, P8.3: a list and one of its points, as In and as Common.
func TestCommonOfOne(t *testing.T) {
	r := newRand(8)
	for range 500 {
		d := 1 + r.Intn(4)
		list, p := mixed(r, 1+r.Intn(12), d), mixed(r, 1, d)
		if inOrWall(t, list, p[0]) != commonOrWall(t, p, list) {
			t.Fatalf("In and Common of %v in %v", p, list)
		}
	}
}
