package plan_test

import (
	"fmt"
	"math"
	"math/rand"
	"slices"
	"testing"

	"rabbet/api"
	"rabbet/plan"
)

// some returns sizes from 1 to most, the same ones for the same seed.
func some(seed int64, n int, most int64) [][2]int64 {
	r := rand.New(rand.NewSource(seed))
	var out [][2]int64
	for range n {
		out = append(out, [2]int64{1 + r.Int63n(most), 1 + r.Int63n(most)})
	}
	return out
}

// extent is the width of the fitted floor (side 0), or its height (side 1), from the definition: each room begins where all those end that come before it. (They have lesser numbers.)
func extent(before [][]bool, sizes [][2]int64, side int) int64 {
	ends := make([]int64, len(sizes))
	for b := range sizes {
		begin := int64(0)
		for a := range sizes {
			if before[a][b] {
				begin = max(begin, ends[a])
			}
		}
		ends[b] = begin + sizes[b][side]
	}
	return slices.Max(ends)
}

// P3.5: Fit, by the definition, and Chain, by its own: it proves that the floor cannot be smaller.
func TestFit(t *testing.T) {
	for i, x := range append(floorsTo(6), big(t)...) {
		left, above := leftOf(x), aboveOf(x)
		for _, most := range []int64{1, 3, 1_000_000_000} {
			sizes := some(int64(i), len(x), most)
			width, height, e := plan.Fit(x, sizes)
			if width != extent(left, sizes, 0) || height != extent(above, sizes, 1) || e != api.OK {
				t.Fatalf("Fit(%v, %v): %d, %d, %d", x, sizes, width, height, e)
			}
			rooms, e := plan.Chain(x, sizes, false)
			must(t, e)
			checkChain(t, rooms, left, sizes, 0, width)
			rooms, e = plan.Chain(x, sizes, true)
			must(t, e)
			checkChain(t, rooms, above, sizes, 1, height)
		}
	}
}

func checkChain(t *testing.T, rooms []int, before [][]bool, sizes [][2]int64, side int, want int64) {
	t.Helper()
	sum := int64(0)
	for i, k := range rooms {
		if i > 0 && !before[rooms[i-1]][k] {
			t.Fatalf("chain %v: %d does not follow", rooms, k)
		}
		sum += sizes[k][side]
	}
	if sum != want {
		t.Fatalf("chain %v: %d, not %d", rooms, sum, want)
	}
}

// P3.5: cases that are worked out by hand.
func TestFitCases(t *testing.T) {
	wheel := []int{1, 4, 2, 0, 3}
	for _, x := range []struct {
		p             []int
		sizes         [][2]int64
		width, height int64
		left, above   []int
	}{
		{[]int{0}, [][2]int64{{7, 8}}, 7, 8, []int{0}, []int{0}},
		{[]int{0, 1}, [][2]int64{{1, 2}, {3, 1}}, 4, 2, []int{0, 1}, []int{0}},
		{[]int{1, 0}, [][2]int64{{1, 2}, {3, 1}}, 3, 3, []int{1}, []int{0, 1}},
		{[]int{1, 3, 0, 2}, [][2]int64{{5, 1}, {1, 1}, {1, 9}, {7, 1}}, 12, 10, []int{0, 3}, []int{2, 3}}, // 0 and 3 do not touch
		{wheel, [][2]int64{{1, 1}, {1, 1}, {1, 1}, {1, 1}, {1, 1}}, 3, 3, []int{1, 2, 3}, []int{0, 2, 4}},
		{wheel, [][2]int64{{9, 1}, {1, 1}, {1, 1}, {1, 1}, {1, 1}}, 10, 3, []int{0, 3}, []int{0, 2, 4}},
		{wheel, [][2]int64{{1, 1}, {1, 7}, {1, 1}, {1, 1}, {9, 2}}, 10, 8, []int{1, 4}, []int{0, 1}},
	} {
		y := of(t, x.p)
		width, height, e := plan.Fit(y, x.sizes)
		left, _ := plan.Chain(y, x.sizes, false)
		above, _ := plan.Chain(y, x.sizes, true)
		if width != x.width || height != x.height || !slices.Equal(left, x.left) || !slices.Equal(above, x.above) || e != api.OK {
			t.Errorf("%v, %v: %d, %d, %v, %v, %d", x.p, x.sizes, width, height, left, above, e)
		}
	}
	greatest := slices.Repeat([][2]int64{{1_000_000_000, 1_000_000_000}}, 60)
	if width, height, e := plan.Fit(strips(60, false), greatest); width != 60_000_000_000 || height != 1_000_000_000 || e != api.OK {
		t.Errorf("Fit of the greatest sizes: %d, %d, %d", width, height, e)
	}
	if width, height, e := plan.Fit(strips(60, true), greatest); width != 1_000_000_000 || height != 60_000_000_000 || e != api.OK {
		t.Errorf("Fit of the greatest sizes, across: %d, %d, %d", width, height, e)
	}
	if rooms, e := plan.Chain(strips(60, false), greatest, false); !slices.Equal(rooms, up(60)) || e != api.OK {
		t.Errorf("Chain of 60 rooms: %v, %d", rooms, e)
	}
}

// turnings returns the least widths and heights of the fitted floor over all ways to turn the rooms, from the definition.
func turnings(x plan.Plan, sizes [][2]int64) [][2]int64 {
	left, above := leftOf(x), aboveOf(x)
	var all [][2]int64
	for set := range 1 << len(x) {
		now := slices.Clone(sizes)
		for k := range now {
			if set>>k&1 == 1 {
				now[k][0], now[k][1] = now[k][1], now[k][0]
			}
		}
		all = append(all, [2]int64{extent(left, now, 0), extent(above, now, 1)})
	}
	var out [][2]int64
	for _, s := range all {
		less := func(r [2]int64) bool { return r != s && r[0] <= s[0] && r[1] <= s[1] }
		if !slices.ContainsFunc(all, less) && !slices.Contains(out, s) {
			out = append(out, s)
		}
	}
	slices.SortFunc(out, func(a, b [2]int64) int { return int(a[0] - b[0]) })
	return out
}

// P3.5: Curve, by the definition.
func TestCurve(t *testing.T) {
	plans := floorsTo(5)
	for i, x := range floors(6) {
		if i%9 == 0 {
			plans = append(plans, x)
		}
	}
	for i, x := range append(plans, of(t, walled(10)), of(t, nested(9))) {
		for _, most := range []int64{1, 3, 10, 1_000_000_000} {
			sizes := some(int64(i), len(x), most)
			got, e := plan.Curve(x, sizes)
			if !guillotine(x, up(len(x))) {
				if len(got) > 0 || e != api.ErrNone {
					t.Fatalf("Curve(%v, %v): %v, %d", x, sizes, got, e)
				}
				continue
			}
			if want := turnings(x, sizes); !slices.Equal(got, want) || e != api.OK {
				t.Fatalf("Curve(%v, %v): %v, %d, not %v", x, sizes, got, e, want)
			}
		}
	}
}

// P3.5: curves that are worked out by hand, the chapter's example among them.
func TestCurveCases(t *testing.T) {
	flat := slices.Repeat([][2]int64{{1, 2}}, 60)
	var stairs [][2]int64 // the height of the floor is that of the highest room that stands: those that are lower stand, too
	for k := range int64(60) {
		stairs = append(stairs, [2]int64{1, k + 2})
	}
	var wantStairs [][2]int64 // if rooms of up to k stand, all others lie: their heights become their widths
	for k := int64(61); k >= 1; k-- {
		width := int64(60)
		for j := k + 1; j <= 61; j++ {
			width += max(j, 2) - 1
		}
		wantStairs = append(wantStairs, [2]int64{width, k})
	}
	for _, x := range []struct {
		x           plan.Plan
		sizes, want [][2]int64
	}{
		{strips(1, false), [][2]int64{{1, 2}}, [][2]int64{{1, 2}, {2, 1}}},
		{strips(1, false), [][2]int64{{2, 1}}, [][2]int64{{1, 2}, {2, 1}}},
		{strips(1, false), [][2]int64{{3, 3}}, [][2]int64{{3, 3}}},
		{strips(2, false), [][2]int64{{1, 2}, {3, 1}}, [][2]int64{{2, 3}, {4, 2}, {5, 1}}},
		{strips(2, true), [][2]int64{{1, 2}, {3, 1}}, [][2]int64{{1, 5}, {2, 4}, {3, 2}}},
		{strips(60, false), flat, [][2]int64{{60, 2}, {120, 1}}},
		{strips(60, true), flat, [][2]int64{{1, 120}, {2, 60}}},
		{strips(60, false), slices.Repeat([][2]int64{{1_000_000_000, 1}}, 60), [][2]int64{{60, 1_000_000_000}, {60_000_000_000, 1}}},
		{strips(60, false), stairs, wantStairs},
	} {
		if got, e := plan.Curve(x.x, x.sizes); !slices.Equal(got, x.want) || e != api.OK {
			t.Errorf("Curve(%v, %v): %v, %d, not %v", x.x, x.sizes, got, e, x.want)
		}
	}
}

// P3.5: Curve for many rooms: the floor that no room is turned on is no less than a pair of it, pairs rise and fall, and turning all rooms of the turned plan gives the same.
func TestCurveOfMany(t *testing.T) {
	for seed, p := range [][]int{walled(60), nested(60), up(60), down(60), nested(59)} {
		x, sizes := of(t, p), some(int64(seed), len(p), 1_000_000_000)
		got, e := plan.Curve(x, sizes)
		must(t, e)
		width, height, e := plan.Fit(x, sizes)
		must(t, e)
		if !slices.ContainsFunc(got, func(s [2]int64) bool { return s[0] <= width && s[1] <= height }) {
			t.Errorf("Fit of %v: %d, %d is better than %v", p, width, height, got)
		}
		for i := range got[1:] {
			if got[i][0] >= got[i+1][0] || got[i][1] <= got[i+1][1] {
				t.Errorf("Curve of %v: %v, %v", p, got[i], got[i+1])
			}
		}
		mirrored, e := plan.Curve(turned(x), sizes)
		must(t, e)
		var back [][2]int64
		for _, s := range slices.Backward(mirrored) {
			back = append(back, [2]int64{s[1], s[0]})
		}
		if !slices.Equal(got, back) {
			t.Errorf("Curve of %v: %v, turned %v", p, got, back)
		}
	}
}

// P3.5: the number of sizes comes before their range, and both before a plan that has no cut tree.
func TestSizeErrors(t *testing.T) {
	for _, p := range [][]int{{0}, {1, 0}, {1, 4, 2, 0, 3}, up(60)} {
		x := of(t, p)
		n := len(p)
		for _, k := range []int{0, n - 1, n + 1, 2 * n} {
			if k == n {
				continue
			}
			fails(t, fmt.Sprintf("%d sizes for %d rooms", k, n), sized(x, slices.Repeat([][2]int64{{1, 1}}, k)), api.ErrShape)
			fails(t, fmt.Sprintf("%d sizes for %d rooms, out of range", k, n), sized(x, make([][2]int64, k)), api.ErrShape)
		}
		fails(t, "no sizes", sized(x, nil), api.ErrShape)
		for _, bad := range []int64{0, -1, 1_000_000_001, math.MinInt64, math.MaxInt64} {
			for side := range 2 {
				for _, k := range []int{0, n / 2, n - 1} {
					sizes := slices.Repeat([][2]int64{{1, 1}}, n)
					sizes[k][side] = bad
					fails(t, fmt.Sprintf("%d, side %d of room %d of %d", bad, side, k, n), sized(x, sizes), api.ErrArg)
				}
			}
		}
	}
	wheel := of(t, []int{1, 4, 2, 0, 3})
	for _, good := range []int64{1, 1_000_000_000} {
		sizes := slices.Repeat([][2]int64{{good, good}}, 5)
		if got, e := plan.Curve(wheel, sizes); len(got) > 0 || e != api.ErrNone {
			t.Errorf("Curve of a pinwheel: %v, %d", got, e)
		}
		if width, height, e := plan.Fit(wheel, sizes); width != 3*good || height != 3*good || e != api.OK {
			t.Errorf("Fit of a pinwheel: %d, %d, %d", width, height, e)
		}
	}
}
