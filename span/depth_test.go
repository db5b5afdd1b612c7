package span_test

import (
	"slices"
	"testing"

	"rabbet/api"
	"rabbet/frac"
	"rabbet/span"
)

// P8.6: example 3 of the chapter, and others by hand.
func TestDepth(t *testing.T) {
	square := "0 0, 2 0, 2 2, 0 2"
	for _, x := range []struct {
		points, p string
		want      int
	}{
		{square, "1 1", 2},
		{square, "0 0", 1},
		{square, "1 0", 1},
		{square, "1 1/2", 1},
		{square, "1/2 1/2", 1},
		{square, "3 1", 0},
		{square, "2 1000001/1000000", 1},
		{square, "2000001/1000000 1", 0},
		{square, "1000000001 0", 0},
		{"5 5", "5 5", 1},
		{"5 5", "5 4", 0},
		{"5 5, 5 5, 5 5", "5 5", 3},
		{"5 5, 5 5, 5 5", "6 6", 0},
		{"0 0, 1 1, 2 2", "1 1", 2}, // on a line: a half-plane across it
		{"0 0, 1 1, 2 2", "0 0", 1},
		{"0 0, 1 1, 2 2", "1/2 1/2", 1},
		{"0 0, 1 1, 2 2", "3 3", 0},
		{"0 0, 1 1, 2 2", "1 2", 0},
		{"0 0, 1 1, 2 2, 3 3, 4 4", "2 2", 3},
		{"0 0, 4 0, 0 4", "1 1", 1}, // inside a triangle
		{"0 0, 4 0, 0 4, 1 1", "1 1", 2},
		{"0 0, 4 0, 0 4, 1 1", "2 2", 1},
		{"-2 0, 2 0, 0 -2, 0 2, 0 0", "0 0", 3},
		{"-2 0, 2 0, 1 0, 0 -2, 0 2, 0 0", "0 0", 3}, // two on one side, one on the other
		{"-2 0, -1 0, 2 0, 1 0, 0 -2, 0 2, 0 0", "0 0", 4},
		{"1000000 1000000, -1000000 1000000, 0 -1000000", "0 0", 1},
		{"1000000 1000000, -1000000 1000000, 0 -1000000", "0 1000000", 1},
		{"1000000 1000000, -1000000 1000000, 0 -1000000", "1/3 999999/2", 1},
	} {
		if n, e := span.Depth(points(x.points), numbers(x.p)); n != x.want || e != api.OK {
			t.Errorf("Depth of %s in %s: %d, %d", x.p, x.points, n, e)
		}
		if n := depthOf(points(x.points), numbers(x.p)); n != x.want {
			t.Errorf("a wrong test: %s in %s: %d", x.p, x.points, n)
		}
	}
}

func depth(t *testing.T, list [][]int64, p []frac.Rat) int {
	t.Helper()
	n, e := span.Depth(list, p)
	if want := depthOf(list, p); n != want || e != api.OK {
		t.Fatalf("Depth of %s in %v: %d, %d, not %d", text(p), list, n, e, want)
	}
	return n
}

// P8.6: all lists of up to three points of a small grid.
func TestDepthSmall(t *testing.T) {
	for n := 1; n <= 3; n++ {
		eachList(n, 2, 0, 2, func(list [][]int64) {
			for x := int64(-1); x <= 4; x++ {
				for y := int64(0); y <= 4; y++ {
					depth(t, list, []frac.Rat{must(frac.Make(x, 2)), must(frac.Make(y, 2))})
				}
			}
		})
	}
}

// P8.6: points of all kinds; depths from 0 on occur.
func TestDepthRandom(t *testing.T) {
	r := newRand(18)
	var seen [13]int
	for i := range 800 {
		list := mixed(r, 1+r.Intn(12), 2)
		var p []frac.Rat
		switch i % 4 {
		case 0:
			p = fractions(list[r.Intn(len(list))])
		case 1:
			p = []frac.Rat{small(r, 3), small(r, 3)}
		case 2:
			a, b := list[r.Intn(len(list))], list[r.Intn(len(list))]
			p = []frac.Rat{must(frac.Make(a[0]+b[0], 2)), must(frac.Make(a[1]+b[1], 2))}
		case 3: // somewhere in the middle
			var sum [2]int64
			for _, q := range list {
				sum[0], sum[1] = sum[0]+q[0], sum[1]+q[1]
			}
			n := int64(len(list))
			p = []frac.Rat{must(frac.Make(sum[0], n)), must(frac.Make(sum[1], n))}
		}
		seen[depth(t, list, p)]++
	}
	for n := range 6 {
		if seen[n] < 10 {
			t.Errorf("depths: %v", seen)
		}
	}
}

// P8.6: points with as many digits as there may be.
func TestDepthDigits(t *testing.T) {
	for _, n := range []int{7, 59, 60} {
		small := must(frac.Parse("1/" + nines(n)))
		list := points("0 0, 2 0, 2 2, 0 2")
		for _, x := range []struct {
			p    []frac.Rat
			want int
		}{
			{[]frac.Rat{small, small}, 1},
			{[]frac.Rat{small, small.Neg()}, 0},
			{[]frac.Rat{small.Neg(), small}, 0},
			{[]frac.Rat{small, frac.Of(0)}, 1},
			{numbers(nines(n) + " 1"), 0},
		} {
			if k := depth(t, list, x.p); k != x.want {
				t.Errorf("Depth of %s: %d", text(x.p), k)
			}
		}
	}
}

// isCentre checks a centre point by the definition.
func isCentre(t *testing.T, list [][]int64) {
	t.Helper()
	p, e := span.Centre(list)
	if e != api.OK || len(p) != 2 || digits(p...) > 60 {
		t.Fatalf("Centre of %v: %s, %d", list, text(p), e)
	}
	if n := depth(t, list, p); 3*n < len(list) {
		t.Fatalf("Centre of %v: %s, of depth %d", list, text(p), n)
	}
}

// P8.6, P8.8: each list has a centre point: all lists of up to four points of a small grid, and of up to eight of a smaller one.
func TestCentreSmall(t *testing.T) {
	for n := 1; n <= 4; n++ {
		eachList(n, 2, 0, 2, func(list [][]int64) {
			if n < 4 || (list[0][0]+list[1][1]+list[2][0]+list[3][1])%3 == 0 {
				isCentre(t, list)
			}
		})
	}
	for n := 5; n <= 8; n++ {
		eachList(n, 2, 0, 1, func(list [][]int64) { isCentre(t, list) })
	}
}

// P8.6, P8.8: points of all kinds.
func TestCentre(t *testing.T) {
	r := newRand(19)
	for n := 1; n <= 12; n++ {
		for range 12 {
			isCentre(t, mixed(r, n, 2))
		}
		isCentre(t, some(r, n, 2, limit))
		isCentre(t, flat(r, n, 2))
		isCentre(t, same(n, 2, limit))
		isCentre(t, slices.Concat(same(n/2, 2, 3), same(n-n/2, 2, 4)))
		isCentre(t, slices.Concat(same(n/2, 2, 0), some(r, n-n/2, 2, limit)))
	}
}

// P8.6, P8.8: lists of which none is a centre point: on a bow, and in three heaps far from each other.
func TestCentreBetween(t *testing.T) {
	r := newRand(20)
	for n := int64(4); n <= 12; n++ {
		var bow, heaps [][]int64
		for i := range n {
			x := 70*i + r.Int63n(50)
			bow = append(bow, []int64{x, x * x})
			far := limit - 1 - r.Int63n(1000)
			heaps = append(heaps, [][]int64{{far, far - r.Int63n(500)}, {-far, r.Int63n(500)}, {-r.Int63n(500), -far}}[i%3])
		}
		isCentre(t, bow)
		isCentre(t, heaps)
		p := must(span.Centre(bow))
		for _, q := range bow {
			if n > 3 && text(p) == text(fractions(q)) {
				t.Errorf("Centre of %v: %s", bow, text(p))
			}
		}
	}
}
