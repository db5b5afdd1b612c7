package span_test

import (
	"reflect"
	"slices"
	"testing"

	"rabbet/api"
	"rabbet/frac"
	"rabbet/span"
)

// P8.7: a wall excludes weights, and weights exclude a wall: no half-space of many is a wall where there is a common point, and no weights of many make a point where there is a wall.
func TestNeverBoth(t *testing.T) {
	r := newRand(21)
	for range 300 {
		d := 1 + r.Intn(3)
		a, b := some(r, 1+r.Intn(5), d, 3), some(r, 1+r.Intn(3), d, 3)
		_, common, _ := twoLists(span.Common(a, b))
		_, apart, e := span.Between(a, b)
		if common == apart || e != api.OK {
			t.Fatalf("Common of %v, %v: %t, Between: %t", a, b, common, apart)
		}
		for range 30 {
			if h := someHalves(r, 1, d, 4)[0]; span.IsWall(a, b, h) && common {
				t.Fatalf("%v and %v have a common point, and the wall %s", a, b, textOfHalf(h))
			}
		}
		for _, p := range b {
			for range 10 {
				w := make([]frac.Rat, len(a))
				for range 4 {
					at := r.Intn(len(a))
					w[at] = must(w[at].Add(must(frac.Make(1, 4))))
				}
				if span.Makes(a, w, fractions(p)) && apart {
					t.Fatalf("%v and %v have a wall, and the weights %s", a, b, text(w))
				}
			}
		}
	}
}

func twoLists(v, w []frac.Rat, ok bool, e api.Errno) ([][]frac.Rat, bool, api.Errno) {
	return [][]frac.Rat{v, w}, ok, e
}

// P8.7 (Caratheodory): a point that is in a hull is in that of d + 1 points at most, those whose weights are not 0.
func TestCaratheodory(t *testing.T) {
	r := newRand(22)
	for range 300 {
		d := 1 + r.Intn(4)
		list := some(r, 12, d, 9)
		p := some(r, 1, d, 2)[0]
		w, ok, _ := span.In(list, p)
		if !ok {
			continue
		}
		var few [][]int64
		for i, q := range list {
			if w[i].Sign() != 0 {
				few = append(few, q)
			}
		}
		if len(few) > d+1 || !inOrWall(t, few, p) {
			t.Fatalf("%v is not in the hull of %v", p, few)
		}
	}
}

// P8.7, P8.5: hulls of parts, which grow: what is in one of them is in that of more points; fewer half-spaces have no fewer points.
func TestMoreAndFewer(t *testing.T) {
	r := newRand(23)
	for range 200 {
		d := 1 + r.Intn(4)
		list, p := mixed(r, 12, d), mixed(r, 1, d)[0]
		in := false
		for n := 1; n <= 12; n++ {
			now := inOrWall(t, list[:n], p)
			if in && !now {
				t.Fatalf("%v leaves the hull of %v at %d", p, list, n)
			}
			in = now
		}
		all := mixedHalves(r, 12, d)
		common := true
		for n := 1; n <= 12; n += 1 + r.Intn(3) {
			now := commonOrRefused(t, all[:n])
			if !common && now {
				t.Fatalf("%s: a common point with %d", textOfHalves(all), n)
			}
			common = now
		}
	}
}

// P8.6, P8.7: a point of the plane is in a hull just if its depth is at least 1, and a common point of half-spaces is so if it is of the points on them.
func TestDepthAndHull(t *testing.T) {
	r := newRand(24)
	for range 500 {
		list, p := mixed(r, 1+r.Intn(12), 2), mixed(r, 1, 2)[0]
		if in := inOrWall(t, list, p); in != (depth(t, list, fractions(p)) > 0) {
			t.Fatalf("%v in the hull of %v: %t", p, list, in)
		}
	}
}

// P8.8 (Rado): the depth of a point is at least k just if it is in the hulls of all lists of all but k - 1 points.
func TestDepthOfParts(t *testing.T) {
	r := newRand(25)
	for range 100 {
		n := 1 + r.Intn(7)
		list, p := some(r, n, 2, 3), some(r, 1, 2, 2)[0]
		least := n // of how many points one has to be left out for p not to be in the hull
		for set := range 1 << n {
			var part [][]int64
			for i, q := range list {
				if set>>i&1 == 1 {
					part = append(part, q)
				}
			}
			if len(part) == 0 || !inOrWall(t, part, p) {
				least = min(least, n-len(part))
			}
		}
		if k := depth(t, list, fractions(p)); k != least {
			t.Fatalf("Depth of %v in %v: %d, not %d", p, list, k, least)
		}
	}
}

// P8.8 (Helly): centre points are common to half-planes with more than two thirds of the points.
func TestCentreInHalves(t *testing.T) {
	r := newRand(26)
	for range 100 {
		list := mixed(r, 1+r.Intn(12), 2)
		p := must(span.Centre(list))
		for range 30 {
			h := someHalves(r, 1, 2, 5)[0]
			on := list[r.Intn(len(list))]
			h.Least = frac.Of(0)
			for k, x := range h.Normal {
				h.Least = must(h.Least.Add(must(x.Mul(frac.Of(on[k])))))
			}
			count := 0
			for _, q := range list {
				if inHalf(h, whole(q)) {
					count++
				}
			}
			if 3*count > 2*len(list) && !inHalf(h, toBig(p)) {
				t.Fatalf("Centre of %v: %s is not in %s", list, text(p), textOfHalf(h))
			}
		}
	}
}

// P8.9: moving all points by the same changes neither who is in a hull nor depths.
func TestMoved(t *testing.T) {
	r := newRand(27)
	for range 500 {
		d := 1 + r.Intn(4)
		list, p := some(r, 1+r.Intn(12), d, 9), some(r, 1, d, 6)
		by := some(r, 1, d, limit-9)[0]
		there, q := moved(list, by), moved(p, by)
		if inOrWall(t, list, p[0]) != inOrWall(t, there, q[0]) {
			t.Fatalf("%v in %v, moved by %v", p, list, by)
		}
		if commonOrWall(t, list, p) != commonOrWall(t, there, q) {
			t.Fatalf("%v and %v, moved by %v", p, list, by)
		}
		if d == 2 {
			half := must(frac.Make(1, 2))
			x, y := fractions(p[0]), fractions(q[0])
			for k := range x {
				x[k], y[k] = must(x[k].Add(half)), must(y[k].Add(half))
			}
			if depth(t, list, x) != depth(t, there, y) || depth(t, list, fractions(p[0])) != depth(t, there, fractions(q[0])) {
				t.Fatalf("depths of %v in %v, moved by %v", p, list, by)
			}
		}
	}
}

// R4, R7: calls change no argument, and nothing that is done to a result, or beyond an argument's end, changes another result.
func TestMemory(t *testing.T) {
	list, other := points("0 0, 4 0, 0 4, 4 4, 1 3, 2 2, 3 1"), points("2 1, 9 9")
	apart := points("9 9, 8 9")
	p := []int64{1, 1}
	common, none := halves("1 1 1, 1 0 0"), halves("1 0 1, -1 0 0, 0 1 0")
	at := numbers("1/2 1/2")
	all := func() []any {
		return slices.Concat(
			values(span.Check(list)), values(span.CheckHalf(common[0])), values(span.In(list, p)), values(span.Wall(list, apart[0])), values(span.Common(list, other)),
			values(span.Between(list, apart)), values(span.Radon(list[:4])), values(span.Tverberg(list)), values(span.Helly(common)), values(span.Refuse(none)),
			values(span.InAll(common, at)), values(span.Depth(list, at)), values(span.Centre(list)),
			values(span.IsWall(list, apart, half("-1 -1 -8"))), values(span.Makes(list, numbers("1 0 0 0 0 0 0"), numbers("0 0"))),
			values(span.IsSplit(list, []int{0, 1, 1, 0, 2, 2, 2}, 2, numbers("2 2"))), values(span.Refuses(none, numbers("1 1 0"))),
		)
	}
	first, second := all(), all()
	if !reflect.DeepEqual(first, second) {
		t.Fatalf("%v, then %v", first, second)
	}
	for _, x := range first { // whatever is written into a result
		v := reflect.ValueOf(x)
		if h, ok := x.(span.Half); ok {
			v = reflect.ValueOf(h.Normal)
		}
		if v.Kind() == reflect.Slice {
			v = v.Slice(0, v.Cap())
			for i := range v.Len() {
				v.Index(i).SetZero()
			}
		}
	}
	if !reflect.DeepEqual(second, all()) {
		t.Errorf("results share memory with an argument, or with each other")
	}
	if textOfHalves(common)+textOfHalves(none)+text(at) != "1 1 >= 1, 1 0 >= 01 0 >= 1, -1 0 >= 0, 0 1 >= 01/2 1/2" {
		t.Errorf("an argument was changed")
	}
	if !reflect.DeepEqual(list, points("0 0, 4 0, 0 4, 4 4, 1 3, 2 2, 3 1")) || !reflect.DeepEqual(other, points("2 1, 9 9")) {
		t.Errorf("an argument was changed")
	}
}

// R4: two results of one call share no memory, not even beyond their ends.
func TestTwoResults(t *testing.T) {
	v, w, ok, _ := span.Common(points("0, 2"), points("1"))
	if !ok || text(v) != "1/2 1/2" || text(w) != "1" {
		t.Fatalf("Common: %s; %s", text(v), text(w))
	}
	_ = append(v, frac.Of(7))
	if text(w) != "1" {
		t.Errorf("Common: %s after the weights of the first list were appended to", text(w))
	}
}

// R4: nothing beyond an argument's end is read or written.
func TestBeyondEnds(t *testing.T) {
	list := append(make([][]int64, 0, 9), points("0 0, 4 0, 0 4")...)
	for i := range list {
		list[i] = append(make([]int64, 0, 5), list[i]...)
	}
	normal := append(make([]frac.Rat, 0, 9), numbers("1 1")...)
	p := append(make([]frac.Rat, 0, 9), numbers("1 1")...)
	list[:4][3] = []int64{limit + 1}
	list[0][:3][2], list[1][:4][3] = 5, limit+1
	normal[:3][2], p[:3][2] = frac.Of(3), frac.Of(4)
	h := []span.Half{{Normal: normal, Least: frac.Of(1)}}
	if e := span.CheckHalf(h[0]); e != api.OK {
		t.Errorf("CheckHalf: %d", e)
	}
	if in, e := span.InAll(h, p); !in || e != api.OK {
		t.Errorf("InAll: %t, %d", in, e)
	}
	if n, e := span.Depth(list, p); n != 1 || e != api.OK {
		t.Errorf("Depth: %d, %d", n, e)
	}
	if !span.Makes(list, numbers("1/2 1/4 1/4"), p) || !span.IsSplit(list, []int{0, 0, 0}, 1, p) || span.IsWall(list, list, h[0]) {
		t.Errorf("Makes, IsSplit or IsWall")
	}
	if _, _, e := span.Helly(h); e != api.OK {
		t.Errorf("Helly: %d", e)
	}
	if !inOrWall(t, list, []int64{1, 1}) {
		t.Errorf("In")
	}
	if normal[:3][2].Cmp(frac.Of(3)) != 0 || p[:3][2].Cmp(frac.Of(4)) != 0 || list[0][:3][2] != 5 || list[:4][3][0] != limit+1 {
		t.Errorf("something beyond an end was written")
	}
}
