package span_test

import (
	"slices"
	"testing"

	"rabbet/api"
	"rabbet/frac"
	"rabbet/span"
)

// P8.4: example 2 of the chapter, which has no other split.
func TestSplitExample(t *testing.T) {
	square := points("0 0, 2 0, 2 2, 0 2")
	split, centre, e := span.Radon(square)
	if !slices.Equal(split, []int{0, 1, 0, 1}) && !slices.Equal(split, []int{1, 0, 1, 0}) || text(centre) != "1 1" || e != api.OK {
		t.Errorf("Radon: %v, %s, %d", split, text(centre), e)
	}
	if !span.IsSplit(square, []int{0, 1, 0, 1}, 2, numbers("1 1")) {
		t.Errorf("IsSplit")
	}
}

// splits checks a result of Radon, or of Tverberg, by the definition.
func splits(t *testing.T, list [][]int64, parts int, split []int, centre []frac.Rat, e api.Errno) {
	t.Helper()
	if e != api.OK || !isSplit(list, split, parts, centre) || !span.IsSplit(list, split, parts, centre) {
		t.Fatalf("a split of %v into %d parts: %v, %s, %d", list, parts, split, text(centre), e)
	}
}

func radon(t *testing.T, list [][]int64) {
	t.Helper()
	split, centre, e := span.Radon(list)
	splits(t, list, 2, split, centre, e)
}

func tverberg(t *testing.T, list [][]int64) {
	t.Helper()
	split, centre, e := span.Tverberg(list)
	splits(t, list, 3, split, centre, e)
	if slices.Contains(split, 3) {
		t.Fatalf("Tverberg of %v: %v", list, split)
	}
}

// P8.4, P8.8: d + 2 points always have a split: all lists of small points.
func TestRadonSmall(t *testing.T) {
	eachList(3, 1, -3, 3, func(list [][]int64) { radon(t, list) })
	eachList(4, 2, 0, 2, func(list [][]int64) { radon(t, list) })
	eachList(5, 3, 0, 1, func(list [][]int64) { radon(t, list) })
}

// P8.4, P8.8: points of all kinds.
func TestRadon(t *testing.T) {
	r := newRand(14)
	for d := 1; d <= 4; d++ {
		for range 200 {
			radon(t, mixed(r, d+2, d))
		}
		for range 100 {
			radon(t, some(r, d+2, d, limit))
		}
		radon(t, same(d+2, d, 0))
		radon(t, same(d+2, d, limit))
	}
}

// same returns n points that are all the same.
func same(n, d int, x int64) [][]int64 {
	return slices.Repeat([][]int64{slices.Repeat([]int64{x}, d)}, n)
}

// P8.4, P8.8: seven points of the plane always have a split into three: many that are few, or near to each other.
func TestTverbergSmall(t *testing.T) {
	eachList(7, 2, 0, 1, func(list [][]int64) { tverberg(t, list) })
	r := newRand(15)
	for range 150 {
		tverberg(t, some(r, 7, 2, 1))
		tverberg(t, some(r, 7, 2, 2))
		tverberg(t, flat(r, 7, 2))
	}
}

// P8.4, P8.8: points of all kinds, on curves, and at the limits.
func TestTverberg(t *testing.T) {
	r := newRand(16)
	for range 150 {
		tverberg(t, mixed(r, 7, 2))
		tverberg(t, some(r, 7, 2, limit))
	}
	for range 30 {
		var bow, star [][]int64
		for i := range int64(7) {
			x := 1 + r.Int63n(900)
			bow = append(bow, []int64{x, x * x}) // none is between others
			far := 100 * (1 + r.Int63n(100))
			star = append(star, [][]int64{{far, far + i}, {-far - i, 0}, {0, -far}}[i%3])
		}
		tverberg(t, bow)
		tverberg(t, star)
	}
	tverberg(t, same(7, 2, limit))
	tverberg(t, append(same(6, 2, limit), []int64{-limit, 5}))
	tverberg(t, append(same(5, 2, -limit), []int64{-limit, 5}, []int64{1, 1}))
}

// P8.4: IsSplit, by hand.
func TestIsSplit(t *testing.T) {
	line := "0, 4, 2, 6"
	for _, x := range []struct {
		points string
		split  []int
		parts  int
		centre string
		want   bool
	}{
		{line, []int{0, 0, 1, 1}, 2, "3", true},
		{line, []int{0, 0, 1, 1}, 2, "2", true},
		{line, []int{0, 0, 1, 1}, 2, "4", true},
		{line, []int{0, 0, 1, 1}, 2, "7/3", true},
		{line, []int{0, 0, 1, 1}, 2, "5/3", false}, // not in part 1
		{line, []int{0, 0, 1, 1}, 2, "5", false},   // not in part 0
		{line, []int{1, 1, 0, 0}, 2, "5/3", false},
		{line, []int{1, 1, 0, 0}, 2, "5", false},
		{line, []int{0, 0, 1, 2}, 2, "2", true}, // one point in no part
		{line, []int{0, 0, 1, 2}, 2, "3", false},
		{line, []int{0, 0, 1, 2}, 3, "2", false}, // it is in a part now
		{line, []int{0, 0, 1, 3}, 2, "2", false}, // no number
		{line, []int{0, 0, 1, -1}, 2, "2", false},
		{line, []int{0, 0, 2, 2}, 2, "3", false}, // part 1 is empty
		{line, []int{1, 1, 2, 2}, 2, "3", false}, // part 0 is empty
		{line, []int{2, 2, 2, 2}, 2, "3", false},
		{line, []int{0, 0, 0, 0}, 1, "3", true},
		{line, []int{0, 0, 0, 0}, 1, "6", true},
		{line, []int{0, 0, 0, 0}, 1, "61/10", false},
		{line, []int{0, 0, 0, 1}, 1, "5", false}, // the last one is in no part
		{line, []int{0, 0, 0, 1}, 1, "3", true},
		{line, []int{0, 0, 0, 0}, 2, "3", false},
		{line, []int{0, 0, 0, 0}, 0, "3", false},
		{line, []int{0, 0, 0, 0}, -1, "3", false},
		{line, nil, 0, "3", false},
		{line, nil, 1, "3", false},
		{line, []int{0, 0, 1}, 2, "2", false}, // not a number for each point
		{line, []int{0, 0}, 1, "2", false},
		{line, []int{0, 0, 1, 1, 1}, 2, "3", false},
		{line, []int{0, 0, 1, 1}, 2, "3 3", false},
		{line, []int{0, 0, 1, 1}, 2, "", false},
		{line, []int{0, 1, 2, 3}, 4, "3", false},
		{"5, 5, 5, 5", []int{3, 1, 2, 0}, 4, "5", true},
		{"0 0, 2 0, 2 2, 0 2", []int{0, 1, 0, 1}, 2, "1 1", true},
		{"0 0, 2 0, 2 2, 0 2", []int{0, 1, 0, 1}, 2, "1 2", false},
		{"0 0, 2 0, 2 2, 0 2", []int{0, 1, 0, 1}, 2, "1/2 1/2", false},
		{"0 0, 2 0, 2 2, 0 2", []int{0, 0, 1, 1}, 2, "1 1", false},
		{"0 0 0, 0 0 2, 1 1 1, -1 -1 1, 5 5 5", []int{0, 0, 1, 1, 2}, 2, "0 0 1", true},
		{"0 0 0, 0 0 2, 1 1 1, -1 -1 1, 5 5 5", []int{0, 0, 1, 1, 2}, 3, "0 0 1", false},
	} {
		if is := span.IsSplit(points(x.points), x.split, x.parts, numbers(x.centre)); is != x.want {
			t.Errorf("IsSplit of %s, %v, %d, %s: %t", x.points, x.split, x.parts, x.centre, is)
		}
		if is := isSplit(points(x.points), x.split, x.parts, numbers(x.centre)); is != x.want {
			t.Errorf("a wrong test: %s, %v, %d, %s", x.points, x.split, x.parts, x.centre)
		}
	}
}

// P8.4: from 1 to 12 parts, for lists of up to 12 points.
func TestIsSplitParts(t *testing.T) {
	for n := range 15 {
		list := slices.Repeat([][]int64{{3, 4}}, n)
		for parts := -2; parts <= 15; parts++ {
			split := make([]int, n)
			for i := range split {
				split[i] = i % max(1, parts)
			}
			want := n <= 12 && parts >= 1 && parts <= n
			if is := span.IsSplit(list, split, parts, numbers("3 4")); is != want {
				t.Errorf("IsSplit of %d points in %d parts: %t", n, parts, is)
			}
		}
	}
	const most = int(^uint(0) >> 1)
	for _, parts := range []int{most, -most - 1, 1 << 32, 13} {
		if span.IsSplit(points("3 4"), []int{0}, parts, numbers("3 4")) {
			t.Errorf("IsSplit in %d parts", parts)
		}
		if span.IsSplit(points("3 4, 3 4"), []int{0, parts}, 1, numbers("3 4")) {
			t.Errorf("IsSplit with the number %d", parts)
		}
	}
	if span.IsSplit(points("1000001 0"), []int{0}, 1, numbers("1000001 0")) {
		t.Errorf("IsSplit of a point that is out of range")
	}
	faulty(func(list [][]int64, _ api.Errno) {
		for d := range 6 {
			if span.IsSplit(list, make([]int, len(list)), 1, make([]frac.Rat, d)) {
				t.Errorf("IsSplit of %v", list)
			}
		}
	})
}

// P8.4: the centre has up to 60 digits.
func TestIsSplitDigits(t *testing.T) {
	for _, n := range []int{7, 59, 60, 61, 1000} {
		for _, x := range []string{"1/" + nines(n), "-1/" + nines(n), "1" + nines(n-1) + "/" + nines(n), "-1" + nines(n-1) + "/" + nines(n)} {
			if is := span.IsSplit(points("-1, 1, -1, 1"), []int{0, 0, 1, 1}, 2, numbers(x)); is != (n <= 60) {
				t.Errorf("IsSplit of %d digits: %t", n, is)
			}
		}
	}
}

// P8.4: IsSplit of all kinds, by the definition.
func TestIsSplitRandom(t *testing.T) {
	r := newRand(17)
	right := 0
	for i := range 1500 {
		d := 1 + r.Intn(2)
		if i%15 == 0 {
			d = 3 + r.Intn(2)
		}
		list := some(r, 2+r.Intn(7), d, 2)
		parts := 1 + r.Intn(3)
		var split []int
		for range list {
			split = append(split, r.Intn(parts+1))
		}
		var centre []frac.Rat
		for range d {
			centre = append(centre, small(r, 2))
		}
		if r.Intn(2) == 0 {
			centre = fractions(list[r.Intn(len(list))])
		}
		want := isSplit(list, split, parts, centre)
		if want {
			right++
		}
		if is := span.IsSplit(list, split, parts, centre); is != want {
			t.Fatalf("IsSplit of %v, %v, %d, %s: %t", list, split, parts, text(centre), is)
		}
	}
	if right < 150 || right > 1350 {
		t.Errorf("%d are right", right)
	}
}
