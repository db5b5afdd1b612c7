package span

import (
	"strings"
	"testing"

	"rabbet/api"
	"rabbet/frac"
)

// Whatever is calculated, a number that is too large leaves no panic behind, and no result.
func TestTooLarge(t *testing.T) {
	huge, _ := frac.Parse("1" + strings.Repeat("0", 30_000))
	two := point{huge, huge}
	for name, calculate := range map[string]func() (point, api.Errno){
		"times":     func() (point, api.Errno) { return two.times(huge), api.OK },
		"combine":   func() (point, api.Errno) { return combine([]point{two}, []frac.Rat{huge}), api.OK },
		"dot":       func() (point, api.Errno) { return point{dot(two, two)}, api.OK },
		"half":      func() (point, api.Errno) { return Half{two, huge}.times(huge).Normal, api.OK },
		"keepShort": func() (point, api.Errno) { keepShort(30_000, two...); return two, api.OK },
	} {
		if x, e := safely(calculate); x != nil || e != api.ErrSpan {
			t.Errorf("%s: %d numbers, %d", name, len(x), e)
		}
	}
	if x, e := safely(func() (point, api.Errno) { return two.plus(two), api.OK }); len(x) != 2 || e != api.OK {
		t.Errorf("plus: %d numbers, %d", len(x), e)
	}
}

// combine adds up whatever can be added, each by its own factor.
func TestCombine(t *testing.T) {
	of := func(l ...int64) []frac.Rat {
		var out []frac.Rat
		for _, n := range l {
			out = append(out, frac.Of(n))
		}
		return out
	}
	p := combine([]point{of(1, 2), of(10, 20), of(100, 200)}, of(1, 2, -3))
	if p[0].Cmp(frac.Of(-279)) != 0 || p[1].Cmp(frac.Of(-558)) != 0 {
		t.Errorf("points: %v", p)
	}
	h := combine([]Half{{of(1), frac.Of(2)}, {of(-3), frac.Of(5)}}, of(3, 1))
	if h.Normal[0].Sign() != 0 || h.Least.Cmp(frac.Of(11)) != 0 {
		t.Errorf("half-spaces: %v", h)
	}
	if x := dot(of(1, 2, 3), of(4, 5, 6)); x.Cmp(frac.Of(32)) != 0 {
		t.Errorf("dot: %s", x)
	}
}

// divisions yields each way to divide things once, but for the order of the parts, and stops when it is told to.
func TestDivisions(t *testing.T) {
	// How many ways there are to divide 7 things into 1, 2, .. parts at most.
	want := []int{1, 1 + 63, 1 + 63 + 301, 1 + 63 + 301 + 350}
	for i, n := range want {
		count := 0
		seen := map[string]bool{}
		for list := range divisions(7, i+1) {
			key := ""
			next := 0
			for _, number := range list {
				if number > next || number < 0 {
					t.Fatalf("%v", list)
				}
				next = max(next, number+1)
				key += string(rune('a' + number))
			}
			if len(list) != 7 || next > i+1 || seen[key] {
				t.Fatalf("%v", list)
			}
			seen[key] = true
			count++
		}
		if count != n {
			t.Errorf("into %d parts: %d", i+1, count)
		}
	}
	count := 0
	for range divisions(7, 3) {
		count++
		if count == 5 {
			break
		}
	}
	if count != 5 {
		t.Errorf("%d", count)
	}
}
