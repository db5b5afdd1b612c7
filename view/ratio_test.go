package view_test

import (
	"math/big"
	"strings"
	"testing"

	"rabbet/api"
	"rabbet/frac"
	"rabbet/view"
)

// P6.3: cases that are worked out by hand.
func TestRatioCases(t *testing.T) {
	for _, x := range []struct{ points, want string }{
		{"1 0 0, 0 1 0, 1 1 0, 1 2 0", "1/2"},
		{"1 0 0, 0 1 0, 1 1 0, 2 1 0", "2"},
		{"1 0 0, 0 1 0, 1 1 0, 1 -1 0", "-1"},
		{"1 0 0, 0 1 0, 2 3 0, 5 7 0", "15/14"},     // 5 3 / (2 7)
		{"0 1 0, 1 1 0, 2 1 0, 3 1 0", "4/3"},       // r = -p + 2 q, s = -2 p + 3 q: (-2) 2 / ((-1) 3)
		{"0 3 0, -1 -1 0, 4 2 0, 1/2 1/6 0", "4/3"}, // the same ones, times other numbers
		{"0 1 1, 1 1 2, 2 1 3, 3 1 4", "4/3"},       // the same ones on another line
		{"1 2 3, 0 1 1, 1 3 4, 1 2 3", "infinite"},  // s = p
		{"1 2 3, 0 1 1, 1 3 4, -2 -4 -6", "infinite"},
		{"1 2 3, 0 1 1, 1 3 4, 0 1/2 1/2", "0"}, // s = q
		{"1 2 3, 0 1 1, 1 3 4, 1/3 1 4/3", "1"}, // s = r
	} {
		l := triples(x.points)
		r, infinite, e := view.Ratio(l[0], l[1], l[2], l[3])
		got := r.String()
		if infinite {
			got = "infinite"
			if r.Sign() != 0 {
				t.Errorf("Ratio of %s: %s, and infinite", x.points, r)
			}
		}
		if got != x.want || e != api.OK {
			t.Errorf("Ratio of %s: %s, %d", x.points, got, e)
		}
	}
	for _, points := range []string{
		"1 0 0, 1 0 0, 0 1 0, 1 1 0", "1 0 0, 0 1 0, 3 0 0, 1 1 0", "0 1 0, 1 0 0, 3 0 0, 1 1 0", "1 0 0, 1 0 0, 1 0 0, 1 0 0",
		"1 0 0, 0 1 0, 0 0 1, 1 1 0", "1 0 0, 0 1 0, 1 1 0, 1 1 1", "1 0 0, 0 1 0, 1 1 1, 2 2 1", "1 0 0, 0 1 0, 1 1 1, 1 1 1", "1 0 0, 0 1 0, 1 0 0, 0 0 1",
	} {
		l := triples(points)
		if r, infinite, e := view.Ratio(l[0], l[1], l[2], l[3]); r.Sign() != 0 || infinite || e != api.ErrFlat {
			t.Errorf("Ratio of %s: %s, %t, %d", points, r, infinite, e)
		}
	}
}

// parts returns m and n such that r = m p + n q, by two columns in which p and q are independent.
func parts(p, q, r view.Triple) (*big.Rat, *big.Rat) {
	a, b, c := toBig(p[:]...), toBig(q[:]...), toBig(r[:]...)
	minor := func(x, y []*big.Rat, i, j int) *big.Rat {
		return product([]*big.Rat{x[i], x[j]}, []*big.Rat{y[j], new(big.Rat).Neg(y[i])})
	}
	for i := range 3 {
		for j := range i {
			if d := minor(a, b, i, j); d.Sign() != 0 {
				return new(big.Rat).Quo(minor(c, b, i, j), d), new(big.Rat).Quo(minor(a, c, i, j), d)
			}
		}
	}
	return nil, nil
}

// checkRatio checks a ratio by the definition.
func checkRatio(t *testing.T, p, q, r, s view.Triple) {
	t.Helper()
	got, infinite, e := view.Ratio(p, q, r, s)
	if !differ(p, q, r) || rankOf(p, q, r, s) > 2 {
		if e != api.ErrFlat || infinite || got.Sign() != 0 {
			t.Fatalf("Ratio of %s, %s, %s, %s: %s, %t, %d", text(p), text(q), text(r), text(s), got, infinite, e)
		}
		return
	}
	m, n := parts(p, q, r)
	ofP, ofQ := parts(p, q, s)
	good := e == api.OK && infinite == (ofQ.Sign() == 0)
	if good && infinite {
		good = got.Sign() == 0
	} else if good {
		want := new(big.Rat).Quo(new(big.Rat).Mul(ofP, n), new(big.Rat).Mul(m, ofQ))
		good = got.String() == want.RatString()
	}
	if !good {
		t.Fatalf("Ratio of %s, %s, %s, %s: %s, %t, %d", text(p), text(q), text(r), text(s), got, infinite, e)
	}
}

// P6.3: Ratio, by the definition, of all points with the numbers -1, 0 and 1.
func TestRatioTiny(t *testing.T) {
	all := tiny()
	for i, p := range all {
		for _, q := range all {
			for _, r := range all {
				if i%3 > 0 && rankOf(p, q, r) > 2 { // a third of these will do
					continue
				}
				for _, s := range all {
					checkRatio(t, p, q, r, s)
				}
			}
		}
	}
}

// P6.3: Ratio, by the definition, of other points of a line, and Fourth, which finds the point again.
func TestRatioOfLines(t *testing.T) {
	s := newSource(65)
	for range 2000 {
		p, q := s.small(), s.small()
		if same(p, q) {
			continue
		}
		r := combined(s.nonzero(), p, s.nonzero(), q)
		last := combined(s.nonzero(), p, s.number(), q)
		checkRatio(t, p, q, r, last)
		checkRatio(t, p, q, r, s.small())
		checkRatio(t, last, r, p, q)
		ratio, infinite, e := view.Ratio(p, q, r, last)
		if e == api.OK && !infinite {
			again, e := view.Fourth(s.times(p), s.times(q), s.times(r), ratio)
			check(t, "Fourth", again, e, last)
		}
		ratio = s.number()
		fourth, e := view.Fourth(p, q, r, ratio)
		if e != api.OK || !isNormal(fourth) {
			t.Fatalf("Fourth of %s, %s, %s, %s: %s, %d", text(p), text(q), text(r), ratio, text(fourth), e)
		}
		if got, infinite, e := view.Ratio(p, q, r, fourth); got.Cmp(ratio) != 0 || infinite || e != api.OK {
			t.Fatalf("Ratio of %s, %s, %s, %s: %s, %t, %d", text(p), text(q), text(r), text(fourth), got, infinite, e)
		}
	}
}

// P6.3: Fourth.
func TestFourthCases(t *testing.T) {
	line := "1 0 0, 0 1 0, 1 1 0"
	for _, x := range [][3]string{
		{line, "1/2", "1 2 0"}, {line, "0", "0 1 0"}, {line, "1", "1 1 0"}, {line, "-1", "1 -1 0"},
		{"0 1 0, 1 1 0, 2 1 0", "4/3", "1 1/3 0"}, {"0 -1 -1, 5 5 10, 2 1 3", "4/3", "1 1/3 4/3"},
	} {
		l := triples(x[0])
		if p, e := view.Fourth(l[0], l[1], l[2], numbers(x[1])[0]); text(p) != x[2] || e != api.OK {
			t.Errorf("Fourth of %s, %s: %s, %d", x[0], x[1], text(p), e)
		}
	}
	for _, points := range []string{
		"1 0 0, 0 1 0, 0 0 1", "1 0 0, 1 0 0, 0 1 0", "1 0 0, 0 1 0, 1 0 0", "0 1 0, 1 0 0, -2 0 0", "1 2 3, 2 4 6, 3 6 9", "1 0 0, 0 1 0, 1 1 1",
	} {
		l := triples(points)
		for _, ratio := range []string{"0", "1", "2/3", nines(41)} { // which comes after ErrFlat
			p, e := view.Fourth(l[0], l[1], l[2], numbers(ratio)[0])
			flat(t, "Fourth", p, e)
		}
	}
}

// P6.3: the ratio of Fourth may have 40 digits above and below, but not 41.
func TestFourthLimit(t *testing.T) {
	l := triples("1 0 0, 0 1 0, 1 1 0")
	ten := "1" + strings.Repeat("0", 39)
	for _, ratio := range []string{nines(40), "-" + nines(40), nines(40) + "/" + ten, "-" + ten + "/" + nines(40), "1/" + nines(40)} {
		r := numbers(ratio)[0]
		p, e := view.Fourth(l[0], l[1], l[2], r)
		check(t, "Fourth", p, e, view.Triple{r, frac.Of(1)})
	}
	for _, ratio := range []string{ten + "0", "-" + ten + "0", "1/" + ten + "0", "-1/" + nines(41), nines(41) + "/" + ten + "0"} {
		if p, e := view.Fourth(l[0], l[1], l[2], numbers(ratio)[0]); p[0].Sign() != 0 || p[1].Sign() != 0 || p[2].Sign() != 0 || e != api.ErrSize {
			t.Errorf("Fourth with %s: %s, %d", ratio, text(p), e)
		}
	}
	for i := range l { // what is wrong with points comes first
		for _, f := range faults(l[0]) {
			bad := append([]view.Triple(nil), l...)
			bad[i] = f.bad.(view.Triple)
			if _, e := view.Fourth(bad[0], bad[1], bad[2], numbers(nines(41))[0]); e != f.want {
				t.Errorf("Fourth of %v: %d", bad, e)
			}
		}
	}
}
