package view_test

import (
	"testing"

	"rabbet/api"
	"rabbet/frac"
	"rabbet/view"
)

const unit = "1 0 0, 0 1 0, 0 0 1, 1 1 1"

// P6.1: CheckMap, on maps that are none only because of their determinant. (Its other errors are tested with those of all.)
func TestCheckMap(t *testing.T) {
	for _, x := range []struct {
		m    string
		want api.Errno
	}{
		{"1 0 0  0 1 0  0 0 1", api.OK}, {"0 0 1  0 1 0  1 0 0", api.OK}, {"1 2 3  4 5 6  7 8 10", api.OK},
		{"1 2 3  4 5 6  7 8 9", api.ErrPoint}, {"1 2 3  2 4 6  0 0 1", api.ErrPoint}, {"1/2 1/3 0  3 2 0  0 0 1", api.ErrPoint}, {"0 1 0  0 0 1  0 1 1", api.ErrPoint},
	} {
		if e := view.CheckMap(matrix(x.m)); e != x.want {
			t.Errorf("CheckMap of %s: %d", x.m, e)
		}
	}
	s := newSource(66)
	for range 1000 {
		m := view.Map{s.triple(), s.triple(), s.triple()}
		want := api.OK
		if determinant(m).Sign() == 0 {
			want = api.ErrPoint
		}
		if e := view.CheckMap(m); e != want {
			t.Fatalf("CheckMap of %s: %d", text(m), e)
		}
	}
}

// P6.4: cases that are worked out by hand.
func TestMapCases(t *testing.T) {
	for _, x := range [][3]string{
		{unit, unit, "1 0 0 0 1 0 0 0 1"},
		{unit, "0 1 0, 1 0 0, 0 0 1, 1 1 1", "0 1 0 1 0 0 0 0 1"},
		{unit, "1 0 0, 0 1 0, 0 0 1, 2 3 5", "1 0 0 0 3/2 0 0 0 5/2"},
		{"1 0 0, 0 1 0, 0 0 1, 2 3 5", unit, "1 0 0 0 2/3 0 0 0 2/5"},
		{unit, "1 1 1, 0 1 0, 0 0 1, 1 0 0", "1 0 0 1 -1 0 1 0 -1"}, // 1, 0, 0 is 1, 1, 1 less the other two
	} {
		from, to := [4]view.Triple(triples(x[0])), [4]view.Triple(triples(x[1]))
		if m, e := view.FromFour(from, to); text(m) != x[2] || e != api.OK {
			t.Errorf("FromFour of %s, %s: %s, %d", x[0], x[1], text(m), e)
		}
	}
	m, n := matrix("1 2 0  0 1 0  0 0 1"), matrix("0 1 0  1 0 0  0 0 2")
	if p, e := view.Apply(m, triple("1 1 1")); text(p) != "1 1/3 1/3" || e != api.OK {
		t.Errorf("Apply: %s, %d", text(p), e)
	}
	if l, e := view.ApplyLine(m, triple("1 0 -1")); text(l) != "1 -2 -1" || e != api.OK { // x = z: x is x - 2 y before
		t.Errorf("ApplyLine: %s, %d", text(l), e)
	}
	if both, e := view.After(m, n); text(both) != "1 1/2 0 1/2 0 0 0 0 1" || e != api.OK {
		t.Errorf("After: %s, %d", text(both), e)
	}
	if both, e := view.After(n, m); text(both) != "0 1 0 1 2 0 0 0 2" || e != api.OK {
		t.Errorf("After: %s, %d", text(both), e)
	}
	if back, e := view.Back(m); text(back) != "1 -2 0 0 1 0 0 0 1" || e != api.OK {
		t.Errorf("Back: %s, %d", text(back), e)
	}
	if back, e := view.Back(matrix("0 2 0  0 0 3  5 0 0")); text(back) != "0 0 1 5/2 0 0 0 5/3 0" || e != api.OK { // 1/5, 1/2, 1/3
		t.Errorf("Back: %s, %d", text(back), e)
	}
}

// P6.4: FromFour, by the definition.
func TestFromFour(t *testing.T) {
	s := newSource(67)
	all, found := tiny(), map[bool]int{}
	four := func() [4]view.Triple {
		if s.Intn(3) == 0 {
			return [4]view.Triple{s.triple(), s.triple(), s.triple(), s.triple()}
		}
		pick := func() view.Triple { return all[s.Intn(len(all))] }
		return [4]view.Triple{pick(), pick(), pick(), pick()}
	}
	for range 3000 {
		from, to := four(), four()
		m, e := view.FromFour(from, to)
		general := inGeneral(from[:]...) && inGeneral(to[:]...)
		found[general]++
		if !general {
			flat(t, "FromFour", m, e)
			continue
		}
		if e != api.OK || !isNormal(m) || determinant(m).Sign() == 0 {
			t.Fatalf("FromFour of %v, %v: %s, %d", from, to, text(m), e)
		}
		for i, p := range from {
			if !same(taken(m, p), to[i]) {
				t.Fatalf("FromFour of %v, %v: %s does not take %s", from, to, text(m), text(p))
			}
		}
	}
	if min(found[true], found[false]) < 100 {
		t.Fatalf("FromFour: too few of a kind: %v", found)
	}
}

// P6.4: three of the four points of either side may be collinear, or two the same, wherever they stand.
func TestFromFourFlat(t *testing.T) {
	good := [4]view.Triple(triples(unit))
	for i := range 4 {
		for j := range 4 {
			if i == j {
				continue
			}
			bad := good
			bad[i] = bad[j]
			m, e := view.FromFour(bad, good)
			flat(t, "FromFour of repeated points", m, e)
			m, e = view.FromFour(good, bad)
			flat(t, "FromFour to repeated points", m, e)
			for k := range 4 {
				if k == i || k == j {
					continue
				}
				bad[i] = combined(frac.Of(2), good[j], frac.Of(-5), good[k])
				m, e = view.FromFour(bad, good)
				flat(t, "FromFour of collinear points", m, e)
				m, e = view.FromFour(good, bad)
				flat(t, "FromFour to collinear points", m, e)
			}
		}
	}
}

// P6.4: Apply, ApplyLine, After and Back, by their definitions.
func TestApply(t *testing.T) {
	s := newSource(68)
	for range 500 {
		m, n, p, l := s.matrix(), s.matrix(), s.triple(), s.triple()
		q, e := view.Apply(m, p)
		check(t, "Apply", q, e, taken(m, p))
		k, e := view.ApplyLine(m, l)
		if e != api.OK || !isNormal(k) {
			t.Fatalf("ApplyLine of %s, %s: %s, %d", text(m), text(l), text(k), e)
		}
		both, e := view.After(m, n)
		if e != api.OK || !isNormal(both) || !same(taken(both, p), taken(m, taken(n, p))) {
			t.Fatalf("After of %s, %s: %s, %d", text(m), text(n), text(both), e)
		}
		back, e := view.Back(m)
		if e != api.OK || !isNormal(back) || !same(taken(back, taken(m, p)), p) {
			t.Fatalf("Back of %s: %s, %d", text(m), text(back), e)
		}
		for _, other := range []string{"1 0 0", "0 1 0", "0 0 1", "1 2 3"} { // which are points of the line with other lines
			x, e := view.Join(l, triple(other))
			if e == api.OK && !isOn(taken(m, x), k) {
				t.Fatalf("ApplyLine of %s, %s: %s", text(m), text(l), text(k))
			}
		}
	}
}
