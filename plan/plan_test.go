package plan_test

import (
	"math"
	"reflect"
	"slices"
	"testing"

	"rabbet/api"
	"rabbet/perm"
	"rabbet/plan"
)

// isFloor is the definition of a floor plan, for small numbers.
func isFloor(x plan.Plan) bool {
	n := len(x)
	owner := map[[2]int]int{}
	for k, r := range x {
		for column := r[0]; column < r[2]; column++ {
			for row := r[1]; row < r[3]; row++ {
				if _, ok := owner[[2]int{column, row}]; ok || min(column, row) < 0 || max(column, row) >= n {
					return false
				}
				owner[[2]int{column, row}] = k
			}
		}
	}
	for k := range x {
		if v, ok := owner[[2]int{k, k}]; !ok || v != k {
			return false
		}
	}
	return n > 0 && len(owner) == n*n
}

// faulty returns what is no floor plan.
func faulty() map[string]plan.Plan {
	beyond := strips(60, false)
	beyond[59][2] = 61
	short := strips(60, true)
	short[0][2] = 59
	swapped := strips(60, false)
	swapped[0], swapped[1] = swapped[1], swapped[0]
	return map[string]plan.Plan{
		"nil": nil, "no rooms": {}, "61 rooms": strips(61, false), "61 rooms across": strips(61, true), "1000 rooms": strips(1000, false), "61 empty rooms": make(plan.Plan, 61),
		"an empty room": {{0, 0, 0, 0}}, "no width": {{0, 0, 0, 1}}, "no height": {{0, 0, 1, 0}}, "turned inside out": {{1, 1, 0, 0}}, "beyond": {{0, 0, 2, 1}}, "below the square": {{0, 0, 1, 2}}, "before": {{-1, 0, 1, 1}}, "above the square": {{0, -1, 1, 1}}, "from 1": {{1, 1, 2, 2}},
		"the greatest": {{0, 0, math.MaxInt, math.MaxInt}}, "the least": {{math.MinInt, math.MinInt, 1, 1}}, "from the least to the greatest": {{math.MinInt, 0, math.MaxInt, 1}}, "the other way": {{math.MaxInt, math.MaxInt, math.MinInt, math.MinInt}},
		"a gap": {{0, 0, 1, 2}, {1, 1, 2, 2}}, "a gap above": {{0, 1, 1, 2}, {1, 0, 2, 2}}, "a gap within": {{0, 0, 1, 1}, {0, 1, 2, 2}}, "one room alone": {{0, 0, 1, 1}, {1, 1, 2, 2}}, "twice": {{0, 0, 2, 2}, {0, 0, 2, 2}}, "two over each other": {{0, 0, 2, 1}, {0, 0, 2, 2}}, "two over each other in a cell": {{0, 0, 1, 2}, {0, 1, 2, 2}},
		"rooms exchanged": {{1, 0, 2, 2}, {0, 0, 1, 2}}, "one over another, and a gap of the same size": {{0, 0, 2, 1}, {0, 0, 2, 2}, {2, 2, 3, 3}}, "the right numbers of cells": {{0, 0, 1, 3}, {1, 0, 2, 3}, {1, 2, 3, 3}},
		"quarters": {{0, 0, 2, 2}, {2, 0, 4, 2}, {0, 2, 2, 4}, {2, 2, 4, 4}}, "one room has two cells of the diagonal": {{0, 0, 2, 2}, {2, 0, 3, 2}, {0, 2, 3, 3}},
		"60, one beyond": beyond, "60, one short": short, "60, two exchanged": swapped, "60, all over each other": slices.Repeat(plan.Plan{{0, 0, 60, 60}}, 60),
	}
}

// P3.1: Check, for all floor plans of few rooms, and all that is nearly one.
func TestCheck(t *testing.T) {
	for _, x := range append(floorsTo(6), strips(60, false), strips(60, true)) {
		if e := plan.Check(x); e != api.OK {
			t.Errorf("Check(%v): %d", x, e)
		}
	}
	for name, x := range faulty() {
		if e := plan.Check(x); e != api.ErrPlan {
			t.Errorf("Check of what is faulty (%s): %d", name, e)
		}
	}
	near := 0
	for _, x := range floorsTo(5) {
		for k := range x {
			for side := range 4 {
				for to := -2; to <= len(x)+2; to++ {
					y := slices.Clone(x)
					y[k][side] = to
					if (plan.Check(y) == api.OK) != isFloor(y) {
						t.Fatalf("Check(%v): %d", y, plan.Check(y))
					}
					near++
				}
			}
			for j := range k {
				y := slices.Clone(x)
				y[j], y[k] = y[k], y[j]
				if e := plan.Check(y); e != api.ErrPlan {
					t.Fatalf("Check(%v): %d", y, e)
				}
			}
		}
	}
	if near == 0 {
		t.Error("nothing was changed")
	}
}

// P3.1: Check, for all lists of two rooms with numbers from -1 to 3.
func TestCheckAll(t *testing.T) {
	var found []plan.Plan
	tuples(-1, 3, func(a, b, c, d int) {
		tuples(-1, 3, func(e, f, g, h int) {
			if x := (plan.Plan{{a, b, c, d}, {e, f, g, h}}); plan.Check(x) == api.OK {
				found = append(found, x)
			}
		})
	})
	if want := []plan.Plan{{{0, 0, 1, 2}, {1, 0, 2, 2}}, {{0, 0, 2, 1}, {0, 1, 2, 2}}}; !reflect.DeepEqual(found, want) {
		t.Errorf("floor plans for two rooms: %v", found)
	}
}

// drawn is the plan of a permutation, from the definition: the lines are followed by half a cell at a time. (Points have twice the numbers of the columns and rows.)
func drawn(p []int) plan.Plan {
	n := len(p)
	x := make(plan.Plan, n)
	for i, k := range p {
		in := func(column, row int) bool {
			return column == 0 || row == 2*n || slices.ContainsFunc(p[:i], func(j int) bool {
				r := x[j]
				return 2*r[0] <= column && column <= 2*r[2] && 2*r[1] <= row && row <= 2*r[3]
			})
		}
		left, top := 2*k, 2*k
		if in(left, top) {
			for top > 0 && in(left, top-1) {
				top--
			}
		} else {
			for !in(left, top) {
				left--
			}
		}
		right, bottom := 2*k+2, 2*k+2
		if in(right, bottom) {
			for right < 2*n && in(right+1, bottom) {
				right++
			}
		} else {
			for !in(right, bottom) {
				bottom++
			}
		}
		if (left|top|right|bottom)%2 != 0 {
			return nil
		}
		x[k] = [4]int{left / 2, top / 2, right / 2, bottom / 2}
	}
	return x
}

// P3.1: FromPerm, by the definition.
func TestFromPerm(t *testing.T) {
	var all [][]int
	for n := 1; n <= 7; n++ {
		all = append(all, lists(n)...)
	}
	all = append(all, up(api.MaxPerm), down(api.MaxPerm), zigzag(api.MaxPerm))
	for seed := range int64(40) {
		all = append(all, mixed(seed, 8+int(seed*52/39)))
	}
	for _, p := range all {
		x, e := plan.FromPerm(p)
		if !slices.Equal(x, drawn(p)) || e != api.OK {
			t.Fatalf("FromPerm(%v): %v, %d, not %v", p, x, e, drawn(p))
		}
		if e := plan.Check(x); e != api.OK {
			t.Fatalf("Check(FromPerm(%v)): %d", p, e)
		}
	}
}

// P3.1: plans that are worked out by hand, the chapter's examples among them.
func TestFromPermCases(t *testing.T) {
	for _, x := range []struct {
		p    []int
		want plan.Plan
	}{
		{[]int{0}, plan.Plan{{0, 0, 1, 1}}},
		{[]int{0, 1}, plan.Plan{{0, 0, 1, 2}, {1, 0, 2, 2}}},
		{[]int{1, 0}, plan.Plan{{0, 0, 2, 1}, {0, 1, 2, 2}}},
		{[]int{0, 1, 2}, strips(3, false)},
		{[]int{2, 1, 0}, strips(3, true)},
		{[]int{1, 0, 2}, plan.Plan{{0, 0, 2, 1}, {0, 1, 2, 3}, {2, 0, 3, 3}}},
		{[]int{2, 0, 1}, plan.Plan{{0, 0, 1, 2}, {1, 0, 3, 2}, {0, 2, 3, 3}}},
		{[]int{0, 2, 1}, plan.Plan{{0, 0, 1, 3}, {1, 0, 3, 2}, {1, 2, 3, 3}}},
		{[]int{1, 3, 0, 2}, plan.Plan{{0, 0, 2, 1}, {0, 1, 2, 4}, {2, 0, 4, 3}, {2, 3, 4, 4}}},
		{[]int{1, 0, 3, 2}, plan.Plan{{0, 0, 2, 1}, {0, 1, 2, 4}, {2, 0, 4, 3}, {2, 3, 4, 4}}},
		{[]int{2, 0, 3, 1}, plan.Plan{{0, 0, 1, 2}, {1, 0, 4, 2}, {0, 2, 3, 4}, {3, 2, 4, 4}}},
		{[]int{1, 4, 2, 0, 3}, plan.Plan{{0, 0, 3, 1}, {0, 1, 2, 5}, {2, 1, 3, 4}, {3, 0, 5, 4}, {2, 4, 5, 5}}},
		{up(60), strips(60, false)},
		{down(60), strips(60, true)},
	} {
		if got, e := plan.FromPerm(x.p); !slices.Equal(got, x.want) || e != api.OK {
			t.Errorf("FromPerm(%v): %v, %d, not %v", x.p, got, e, x.want)
		}
	}
}

// P3.1: what is no permutation.
func TestErrPerm(t *testing.T) {
	last := up(60)
	last[59] = 0
	for _, p := range [][]int{nil, {}, {1}, {-1}, {0, 0}, {1, 1}, {0, 2}, {1, 2}, {0, 1, 1}, {math.MinInt, 0}, {0, math.MaxInt}, up(61), up(1000), last} {
		if x, e := plan.FromPerm(p); len(x) > 0 || e != api.ErrPerm || perm.Check(p) != api.ErrPerm {
			t.Errorf("FromPerm(%v): %v, %d", p, x, e)
		}
	}
}

// calls makes all calls that take a plan; the results of each end with the error.
func calls(x plan.Plan, a, b int, sizes [][2]int64) map[string][]any {
	all := func(x ...any) []any { return x }
	pack := map[string][]any{}
	pack["Check"] = all(plan.Check(x))
	pack["Baxter"] = all(plan.Baxter(x))
	pack["First"] = all(plan.First(x))
	pack["Count"] = all(plan.Count(x))
	pack["Left"] = all(plan.Left(x, a, b))
	pack["Above"] = all(plan.Above(x, a, b))
	pack["Slice"] = all(plan.Slice(x))
	pack["Pinwheel"] = all(plan.Pinwheel(x))
	for name, results := range sized(x, sizes) {
		pack[name] = results
	}
	return pack
}

// sized makes all calls that take sizes.
func sized(x plan.Plan, sizes [][2]int64) map[string][]any {
	all := func(x ...any) []any { return x }
	pack := map[string][]any{}
	pack["Fit"] = all(plan.Fit(x, sizes))
	pack["Chain"] = all(plan.Chain(x, sizes, false))
	pack["Chain across"] = all(plan.Chain(x, sizes, true))
	pack["Curve"] = all(plan.Curve(x, sizes))
	return pack
}

// empty reports whether x is the zero value, or an empty slice.
func empty(x any) bool {
	v := reflect.ValueOf(x)
	return v.IsZero() || v.Kind() == reflect.Slice && v.Len() == 0
}

// fails reports whether all calls return an error, and nothing beside it.
func fails(t *testing.T, what string, calls map[string][]any, want api.Errno) {
	t.Helper()
	for name, results := range calls {
		last := len(results) - 1
		if results[last] != want {
			t.Errorf("%s, %s: error %d, not %d", name, what, results[last], want)
		}
		for _, x := range results[:last] {
			if !empty(x) {
				t.Errorf("%s, %s: %v next to an error", name, what, x)
			}
		}
	}
}

// P3.1: what is no plan comes first, whatever else is wrong.
func TestErrPlan(t *testing.T) {
	for name, x := range faulty() {
		ones := slices.Repeat([][2]int64{{1, 1}}, len(x))
		fails(t, name, calls(x, 0, 0, ones), api.ErrPlan)
		fails(t, name+", no rooms", calls(x, -1, len(x), ones), api.ErrPlan)
		fails(t, name+", no sizes", calls(x, 0, 1, nil), api.ErrPlan)
		fails(t, name+", wrong sizes", calls(x, 1, 0, make([][2]int64, len(x))), api.ErrPlan)
		if plan.IsPinwheel(x, [4]int{0, 1, 2, 3}) || plan.IsPinwheel(x, [4]int{0, 1, 3, 4}) {
			t.Errorf("IsPinwheel, %s", name)
		}
	}
	wheel := plan.Plan{{0, 0, 3, 1}, {0, 1, 2, 5}, {2, 1, 3, 4}, {3, 0, 5, 4}, {2, 4, 5, 5}}
	if !plan.IsPinwheel(wheel, [4]int{0, 1, 3, 4}) {
		t.Error("IsPinwheel of a pinwheel")
	}
	wheel[2][3] = 3 // the room in its middle is too small
	fails(t, "a gap in a pinwheel", calls(wheel, 0, 1, slices.Repeat([][2]int64{{1, 1}}, 5)), api.ErrPlan)
	if plan.IsPinwheel(wheel, [4]int{0, 1, 3, 4}) {
		t.Error("IsPinwheel of what is no plan")
	}
}

// spoil changes all numbers of a result.
func spoil(x any) {
	switch y := x.(type) {
	case []int:
		y = y[:cap(y)]
		for i := range y {
			y[i] = -9
		}
	case [][2]int64:
		y = y[:cap(y)]
		for i := range y {
			y[i] = [2]int64{-9, -9}
		}
	case plan.Plan:
		y = y[:cap(y)]
		for i := range y {
			y[i] = [4]int{-9, -9, -9, -9}
		}
	case plan.Cut:
		for i := range y.Parts {
			spoil(y.Parts[i])
			y.Parts[i] = plan.Cut{Room: -9}
		}
	}
}

// R4: arguments are not changed, nor read beyond their length, and results share nothing with them, nor with those of another call.
func TestMemory(t *testing.T) {
	for _, p := range [][]int{{0}, {1, 0}, {0, 1, 2}, {1, 4, 2, 0, 3}, {3, 2, 0, 1}, mixed(5, 12), up(12)} {
		list := append(slices.Clone(p), 7, 7, 7)
		drawn := of(t, list[:len(p)])
		again := of(t, p)
		spoil(drawn)
		if !slices.Equal(list, append(slices.Clone(p), 7, 7, 7)) || !slices.Equal(of(t, p), again) {
			t.Fatalf("FromPerm(%v) shares memory", p)
		}
		whole := append(slices.Clone(again), [4]int{7, 7, 7, 7}, [4]int{})
		wholeSizes := slices.Repeat([][2]int64{{3, 5}}, len(p)+2)
		wholeSizes[0], wholeSizes[len(p)] = [2]int64{9, 1}, [2]int64{}
		want, wantSizes := slices.Clone(whole), slices.Clone(wholeSizes)
		x, sizes := whole[:len(p)], wholeSizes[:len(p)]
		first, second := calls(x, 0, len(p)-1, sizes), calls(x, 0, len(p)-1, sizes)
		for _, results := range first {
			for _, y := range results {
				spoil(y)
			}
		}
		if !slices.Equal(whole, want) || !slices.Equal(wholeSizes, wantSizes) {
			t.Fatalf("arguments were changed: %v, %v", whole, wholeSizes)
		}
		if !reflect.DeepEqual(second, calls(x, 0, len(p)-1, sizes)) {
			t.Fatalf("results for %v share memory with others", x)
		}
	}
}
