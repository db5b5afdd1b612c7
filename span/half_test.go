package span_test

import (
	"slices"
	"testing"

	"rabbet/api"
	"rabbet/frac"
	"rabbet/span"
)

// commonOrRefused checks Helly and Refuse by the definitions, and returns whether the half-spaces have a common point.
func commonOrRefused(t *testing.T, list []span.Half) bool {
	t.Helper()
	p, common, e := span.Helly(list)
	w, refused, f := span.Refuse(list)
	if e != api.OK || f != api.OK || common == refused {
		t.Fatalf("Helly of %s: %t, %d; Refuse: %t, %d", textOfHalves(list), common, e, refused, f)
	}
	if common {
		if len(p) != len(list[0].Normal) || !inAll(list, p) {
			t.Fatalf("Helly of %s: %s", textOfHalves(list), text(p))
		}
		if in, e := span.InAll(list, p); !in || e != api.OK {
			t.Fatalf("InAll of %s, %s: %t, %d", textOfHalves(list), text(p), in, e)
		}
		zero(t, "Refuse", w)
		return true
	}
	if !refuses(list, w) || !span.Refuses(list, w) {
		t.Fatalf("Refuse of %s: %s", textOfHalves(list), text(w))
	}
	zero(t, "Helly", p)
	return false
}

// P8.5: example 3 of the chapter.
func TestHalfExamples(t *testing.T) {
	list := halves("1 1, -1 0")
	if commonOrRefused(t, list) || !span.Refuses(list, numbers("1 1")) {
		t.Errorf("x >= 1, -x >= 0")
	}
}

// P8.5: half-spaces by hand.
func TestHelly(t *testing.T) {
	for _, x := range []struct {
		halves string
		want   bool
	}{
		{"1 5", true},
		{"0 0", true},
		{"0 -1", true},
		{"0 1", false}, // nothing is in it
		{"0 0 0 0 1/999999", false},
		{"0 0 0 0 -1/999999", true},
		{"1 0, -1 0", true}, // a single point
		{"1 0, -1 1/999999", false},
		{"1 0, -1 0, 0 1", false},
		{"1 0, -1 0, 0 0", true},
		{"1 0 0, 0 1 0, -1 -1 -1", true},
		{"1 0 0, 0 1 0, -1 -1 0", true},
		{"1 0 0, 0 1 0, -1 -1 1/2", false},
		{"1 1 999999, -1 -1 -999998", false},
		{"1/999999 999999, -1/999999 -999999", true}, // a point that is far away
		{"1 0 0 0 1, 0 1 0 0 1, 0 0 1 0 1, 0 0 0 1 1, -1 -1 -1 -1 -4", true},
		{"1 0 0 0 1, 0 1 0 0 1, 0 0 1 0 1, 0 0 0 1 1, -1 -1 -1 -1 -3", false},
		{"1 0 0 0 1, 0 1 0 0 1, 0 0 1 0 1, 0 0 0 1 1, -1 -1 -1 0 -3", true},
		{"-1 0, -1 0, -1 0, -1 0, -1 0, -1 0, -1 0, -1 0, -1 0, -1 0, -1 0, 1 1", false},
	} {
		if is := commonOrRefused(t, halves(x.halves)); is != x.want {
			t.Errorf("Helly of %s: %t", x.halves, is)
		}
	}
}

// P8.5: half-lines have a common point if the greatest beginning is at most the least end.
func TestHalfLines(t *testing.T) {
	r := newRand(9)
	for range 1000 {
		list := mixedHalves(r, 1+r.Intn(12), 1)
		want := true
		for _, h := range list {
			x, least := h.Normal[0], h.Least
			if x.Sign() == 0 && least.Sign() > 0 {
				want = false
			}
			for _, g := range list {
				if y := g.Normal[0]; x.Sign() > 0 && y.Sign() < 0 && must(least.Quo(x)).Cmp(must(g.Least.Quo(y))) > 0 {
					want = false
				}
			}
		}
		if is := commonOrRefused(t, list); is != want {
			t.Fatalf("Helly of %s: %t", textOfHalves(list), is)
		}
	}
}

// P8.5, P8.8: half-spaces of all kinds have a common point just if each d + 1 of them do (Helly).
func TestHellyOfParts(t *testing.T) {
	r := newRand(10)
	for d := 1; d <= 4; d++ {
		commons, refusals := 0, 0
		for i := range 300 {
			n := d + r.Intn(6)
			if i%20 == 0 {
				n = 12
			}
			list := mixedHalves(r, n, d)
			if i%3 == 0 { // all have a point in common, or nearly so
				for i := range list {
					sum := frac.Of(0)
					for _, x := range list[i].Normal {
						sum = must(sum.Add(x))
					}
					if sum = must(sum.Sub(frac.Of(r.Int63n(2)))); digits(sum) <= 6 {
						list[i].Least = sum
					}
				}
			}
			want := true
			for set := 1; set < 1<<n; set++ {
				var part []span.Half
				for i, h := range list {
					if set>>i&1 == 1 {
						part = append(part, h)
					}
				}
				if len(part) == min(n, d+1) && (n < 12 || r.Intn(8) == 0) && !commonOrRefused(t, part) {
					want = false
					break
				}
			}
			is := commonOrRefused(t, list)
			if n < 12 && is != want || is && !want {
				t.Fatalf("Helly of %s: %t", textOfHalves(list), is)
			}
			if is {
				commons++
			} else {
				refusals++
			}
		}
		if commons < 50 || refusals < 50 {
			t.Errorf("dimension %d: %d have a common point, %d have not", d, commons, refusals)
		}
	}
}

// P8.5: half-spaces with as many digits as there may be, whose points and refusals are long.
func TestLongHalves(t *testing.T) {
	r := newRand(11)
	long := func() frac.Rat {
		x := must(frac.Make(900_001+2*r.Int63n(49_000), 999_999-2*r.Int63n(49_000)))
		if r.Intn(2) == 0 {
			return x.Neg()
		}
		return x
	}
	commons, refusals := 0, 0
	for range 200 {
		var list []span.Half
		for range 12 {
			h := span.Half{Least: long()}
			for range 4 {
				h.Normal = append(h.Normal, long())
			}
			list = append(list, h)
		}
		if commonOrRefused(t, list) {
			commons++
		} else {
			refusals++
		}
	}
	if commons < 10 || refusals < 10 {
		t.Errorf("%d have a common point, %d have not", commons, refusals)
	}
}

// P8.5: Refuses, by hand.
func TestRefuses(t *testing.T) {
	for _, x := range []struct {
		halves, weights string
		want            bool
	}{
		{"1 1, -1 0", "1 1", true},
		{"1 1, -1 0", "1/7 1/7", true},
		{"1 1, -1 0", "1000000000 1000000000", true},
		{"1 1, -1 0", "1 2", false},
		{"1 1, -1 0", "0 0", false},
		{"1 1, -1 0", "-1 -1", false},
		{"1 1, 2 5", "-2 1", false}, // the sums are right, but one weight is below 0
		{"2 5, 1 1", "1 -2", false},
		{"1 1, -1 0", "1", false},
		{"1 1, -1 0", "1 1 0", false},
		{"1 1, -1 0", "", false},
		{"1 1, -1 -1", "1 1", false}, // the sum of the Leasts is 0
		{"1 1, -1 -2", "1 1", false}, // less than that
		{"1 1, -1 0, 2 2", "3 1 -1", false},
		{"1 1, -1 0, -1 1", "2 1 1", false}, // three of them are not 0
		{"1 1, -1 0, -1 1", "2 2 0", true},
		{"1 1, -1 0, -1 1", "1 0 1", true},
		{"1 0 1, 0 1 1, -1 -1 0", "1 1 1", true},
		{"1 0 1, 0 1 1, -1 -1 0", "1 1 2", false}, // not 0 in both numbers
		{"1 0 1, 0 1 1, -1 -2 0", "1 1 1", false}, // not 0 in the second one
		{"1 0 1, 0 1 1, -2 -1 0", "1 1 1", false}, // not 0 in the first one
		{"1 0 1, -1 0 1, 0 1 1, 0 -1 1", "1 1 1 1", false},
		{"1 0 1, -1 0 1, 0 1 1, 0 -1 1", "1 1 0 0", true},
		{"0 1", "1", true},
		{"0 0", "1", false},
		{"0 -1", "1", false},
	} {
		if is := span.Refuses(halves(x.halves), numbers(x.weights)); is != x.want {
			t.Errorf("Refuses of %s, %s: %t", x.halves, x.weights, is)
		}
	}
	for _, n := range []int{61, 999, 1000, 1001} {
		for _, w := range []string{nines(n), "1/" + nines(n), "1" + nines(n-1) + "/" + nines(n)} {
			if is := span.Refuses(halves("1 1, -1 0"), numbers(w+" "+w)); is != (n <= 1000) {
				t.Errorf("Refuses of %d digits: %t", n, is)
			}
		}
	}
	twelve := slices.Repeat(halves("0 1"), 12)
	w := append(make([]frac.Rat, 11), frac.Of(1))
	if !span.Refuses(twelve, w) || span.Refuses(append(twelve, half("0 1")), append(w, frac.Of(0))) {
		t.Errorf("Refuses of 12 and of 13 half-spaces")
	}
}

// P8.5: at most d + 1 weights are not 0, even if all else is right.
func TestRefusesCounts(t *testing.T) {
	for d := 1; d <= 4; d++ {
		list := slices.Repeat([]span.Half{{Normal: make([]frac.Rat, d), Least: frac.Of(1)}}, 12)
		for n := range 13 {
			w := make([]frac.Rat, 12)
			for i := range n {
				w[(5*i)%12] = frac.Of(1)
			}
			if is := span.Refuses(list, w); is != (n > 0 && n <= d+1) {
				t.Errorf("Refuses of %d weights in dimension %d: %t", n, d, is)
			}
		}
	}
}

// P8.5: Refuses of refusals, and of such as are nearly right, by the definition.
func TestRefusesRandom(t *testing.T) {
	r := newRand(12)
	right := 0
	for range 1500 {
		d := 1 + r.Intn(4)
		list := mixedHalves(r, 2+r.Intn(11), d)
		w, ok, _ := span.Refuse(list)
		if !ok {
			for range list {
				w = append(w, frac.Of(r.Int63n(2)))
			}
		}
		switch at := r.Intn(len(w)); r.Intn(4) {
		case 0:
			w[at] = must(w[at].Add(frac.Of(1)))
		case 1:
			w[at] = w[at].Neg()
		}
		want := refuses(list, w)
		if want {
			right++
		}
		if is := span.Refuses(list, w); is != want {
			t.Fatalf("Refuses of %s, %s: %t", textOfHalves(list), text(w), is)
		}
	}
	if right < 200 || right > 1300 {
		t.Errorf("%d are right", right)
	}
}

// P8.5: InAll, by hand.
func TestInAll(t *testing.T) {
	for _, x := range []struct {
		halves, p string
		want      bool
	}{
		{"1 1", "1", true}, // on the edge
		{"1 1", "2", true},
		{"1 1", "999999/1000000", false},
		{"-1 -1", "1", true},
		{"-1 -1", "2", false},
		{"0 0", "5", true},
		{"0 1", "5", false},
		{"1 1, -1 -3", "2", true},
		{"1 1, -1 -3", "4", false},
		{"1 1, -1 -3", "0", false},
		{"1/2 1/3 1", "1 3/2", true},
		{"1/2 1/3 1", "1 7/5", false},
		{"1 2 3 4 30", "1 2 3 4", true},
		{"1 2 3 4 30, 4 3 2 1 21", "1 2 3 4", false},
		{"1 0", "123456789123456789", true}, // out of the range of points of integers
	} {
		if is, e := span.InAll(halves(x.halves), numbers(x.p)); is != x.want || e != api.OK {
			t.Errorf("InAll of %s, %s: %t, %d", x.halves, x.p, is, e)
		}
	}
	r := newRand(13)
	for range 2000 {
		d := 1 + r.Intn(4)
		list := mixedHalves(r, 1+r.Intn(4), d)
		var p []frac.Rat
		for range d {
			p = append(p, small(r, 4))
		}
		if is, e := span.InAll(list, p); is != inAll(list, p) || e != api.OK {
			t.Fatalf("InAll of %s, %s: %t, %d", textOfHalves(list), text(p), is, e)
		}
	}
	twelve := append(slices.Repeat(halves("0 0"), 11), half("1 1"))
	if is, e := span.InAll(twelve, numbers("0")); is || e != api.OK {
		t.Errorf("InAll of 12 half-spaces: %t, %d", is, e)
	}
}
