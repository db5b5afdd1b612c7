package view_test

import (
	"testing"

	"rabbet/api"
	"rabbet/frac"
	"rabbet/view"
)

// P6.2: Normal.
func TestNormal(t *testing.T) {
	for _, x := range [][2]string{
		{"1 0 0", "1 0 0"}, {"2 4 6", "1 2 3"}, {"0 -3 5", "0 1 -5/3"}, {"0 0 -7/9", "0 0 1"},
		{"1/2 0 1/3", "1 0 2/3"}, {"-1 1 0", "1 -1 0"}, {"0 2/3 -4/9", "0 1 -2/3"}, {"1 2 3", "1 2 3"},
	} {
		if p, e := view.Normal(triple(x[0])); text(p) != x[1] || e != api.OK {
			t.Errorf("Normal of %s: %s, %d", x[0], text(p), e)
		}
	}
	s := newSource(61)
	for range 1000 {
		p := s.triple()
		q, e := view.Normal(p)
		check(t, "Normal", q, e, p)
		again, e := view.Normal(q)
		if e == api.OK && text(again) != text(q) {
			t.Fatalf("Normal of %s: %s", text(q), text(again))
		}
	}
}

// P6.2: On.
func TestOn(t *testing.T) {
	for _, x := range []struct {
		p, l string
		want bool
	}{
		{"1 0 1", "1 0 -1", true}, {"1 0 0", "0 5 7", true}, {"1 0 0", "1 0 0", false}, {"1 1 1", "1 1 -2", true},
		{"1/2 1/3 1", "2 -3 0", true}, {"1/2 1/3 1", "2 3 -2", true}, {"1/2 1/3 1", "2 3 2", false}, {"-1 2 3", "3 0 1", true},
	} {
		if is, e := view.On(triple(x.p), triple(x.l)); is != x.want || e != api.OK {
			t.Errorf("On of %s, %s: %t, %d", x.p, x.l, is, e)
		}
	}
	s := newSource(62)
	for range 1000 {
		p, l := s.triple(), s.triple()
		if is, e := view.On(p, l); is != isOn(p, l) || e != api.OK {
			t.Fatalf("On of %s, %s: %t, %d", text(p), text(l), is, e)
		}
	}
}

// P6.2: Join, by the definition: both points are on it.
func TestJoin(t *testing.T) {
	for _, x := range [][3]string{
		{"1 0 0", "0 1 0", "0 0 1"}, {"0 1 0", "1 0 0", "0 0 1"}, {"1 2 3", "1 2 4", "1 -1/2 0"}, {"1 1 1", "1 2 3", "1 -2 1"},
		{"0 1 0", "0 0 1", "1 0 0"}, {"1/2 1 0", "0 0 5", "1 -1/2 0"}, {"1 0 1", "0 1 1", "1 1 -1"},
	} {
		if l, e := view.Join(triple(x[0]), triple(x[1])); text(l) != x[2] || e != api.OK {
			t.Errorf("Join of %s, %s: %s, %d", x[0], x[1], text(l), e)
		}
	}
	s := newSource(63)
	for range 2000 {
		p, q := s.triple(), s.triple()
		l, e := view.Join(p, q)
		if same(p, q) {
			flat(t, "Join", l, e)
		} else if e != api.OK || !isNormal(l) || !isOn(p, l) || !isOn(q, l) {
			t.Fatalf("Join of %s, %s: %s, %d", text(p), text(q), text(l), e)
		}
	}
	for range 200 {
		p := s.small()
		l, e := view.Join(p, s.times(p))
		flat(t, "Join of a point and itself", l, e)
	}
}

// P6.2: General.
func TestGeneral(t *testing.T) {
	for _, x := range []struct {
		points string
		want   bool
	}{
		{"1 0 0", true}, {"1 0 0, 2 0 0", true}, {"1 0 0, 0 1 0, 0 0 1", true}, {"1 0 0, 0 1 0, 2 3 0", false},
		{"1 0 0, 0 1 0, -3 0 0", false}, {"1 0 0, -3 0 0, 0 1 0", false}, {"0 1 0, 1 0 0, -3 0 0", false}, {"1 0 0, 1 0 0, 1 0 0", false},
		{"1 0 0, 0 1 0, 0 0 1, 1 1 1", true}, {"1 0 0, 0 1 0, 0 0 1, 1 1 0", false}, {"1 0 0, 0 1 0, 0 0 1, 1 0 1", false}, {"1 0 0, 0 1 0, 0 0 1, 0 1 1", false},
	} {
		if is, e := view.General(triples(x.points)); is != x.want || e != api.OK {
			t.Errorf("General of %s: %t, %d", x.points, is, e)
		}
	}
	if is, e := view.General(nil); !is || e != api.OK {
		t.Errorf("General of nothing: %t, %d", is, e)
	}
	s := newSource(64)
	all, found := tiny(), map[bool]int{}
	for range 3000 {
		var l []view.Triple
		for range 3 + s.Intn(3) {
			l = append(l, all[s.Intn(len(all))])
		}
		want := inGeneral(l...)
		found[want]++
		if is, e := view.General(l); is != want || e != api.OK {
			t.Fatalf("General of %v: %t, %d", l, is, e)
		}
	}
	if min(found[true], found[false]) < 100 {
		t.Fatalf("General: too few of a kind: %v", found)
	}
}

// P6.2: 12 points are not too many for General, 13 are, which comes before all that is wrong with points.
func TestGeneralLimit(t *testing.T) {
	var l []view.Triple // of a conic, so in general position
	for i := range int64(12) {
		l = append(l, view.Triple{frac.Of(1), frac.Of(i), frac.Of(i * i)})
	}
	if is, e := view.General(l); !is || e != api.OK {
		t.Errorf("General of 12: %t, %d", is, e)
	}
	for i := range l { // one of them on the line of two others
		for _, j := range []int{(i + 1) % 12, (i + 5) % 12} {
			m := append([]view.Triple(nil), l...)
			m[i] = combined(frac.Of(2), l[j], frac.Of(-3), l[(i+7)%12])
			if is, e := view.General(m); is || e != api.OK {
				t.Errorf("General of 12, %d on a line: %t, %d", i, is, e)
			}
		}
	}
	for _, more := range []string{"1 50 2500", "0 0 0", nines(41) + " 0 1"} {
		if is, e := view.General(append(l[:12:12], triple(more))); is || e != api.ErrArg {
			t.Errorf("General of 13: %t, %d", is, e)
		}
	}
	if is, e := view.General(make([]view.Triple, 13)); is || e != api.ErrArg {
		t.Errorf("General of 13 that are 0: %t, %d", is, e)
	}
	if is, e := view.General(make([]view.Triple, 12)); is || e != api.ErrPoint {
		t.Errorf("General of 12 that are 0: %t, %d", is, e)
	}
}
