package plan_test

import (
	"math"
	"slices"
	"testing"

	"rabbet/api"
	"rabbet/perm"
	"rabbet/plan"
)

// P3.3: Left and Above by the definition; of two rooms just one is left of the other one, or above it.
func TestRelations(t *testing.T) {
	for _, x := range append(floorsTo(6), big(t)...) {
		left, above := leftOf(x), aboveOf(x)
		for a := range x {
			for b := range x {
				isLeft, e := plan.Left(x, a, b)
				if isLeft != left[a][b] || e != api.OK {
					t.Fatalf("Left(%v, %d, %d): %t, %d", x, a, b, isLeft, e)
				}
				isAbove, e := plan.Above(x, a, b)
				if isAbove != above[a][b] || e != api.OK {
					t.Fatalf("Above(%v, %d, %d): %t, %d", x, a, b, isAbove, e)
				}
				count := 0
				for _, is := range []bool{left[a][b], left[b][a], above[a][b], above[b][a]} {
					if is {
						count++
					}
				}
				if a != b && count != 1 || a == b && count != 0 {
					t.Fatalf("%v: %d and %d have %d relations", x, a, b, count)
				}
			}
		}
	}
}

// P3.3: cases that are worked out by hand: the plan of 1, 3, 0, 2 has two stacks; 0 touches 3 nowhere, but is left of it.
func TestRelationCases(t *testing.T) {
	x := plan.Plan{{0, 0, 2, 1}, {0, 1, 2, 4}, {2, 0, 4, 3}, {2, 3, 4, 4}}
	for pair, want := range map[[2]int]string{{0, 1}: "above", {0, 2}: "left", {0, 3}: "left", {1, 2}: "left", {1, 3}: "left", {2, 3}: "above", {1, 0}: "", {3, 0}: "", {2, 2}: ""} {
		left, _ := plan.Left(x, pair[0], pair[1])
		above, _ := plan.Above(x, pair[0], pair[1])
		if left != (want == "left") || above != (want == "above") {
			t.Errorf("%v: left %t, above %t", pair, left, above)
		}
	}
	if ok, e := plan.Left(strips(60, false), 0, 59); !ok || e != api.OK {
		t.Errorf("Left of the last one: %t, %d", ok, e)
	}
	if ok, e := plan.Above(strips(60, true), 0, 59); !ok || e != api.OK {
		t.Errorf("Above the last one: %t, %d", ok, e)
	}
}

// P3.3: what is no room.
func TestNoRoom(t *testing.T) {
	for _, n := range []int{1, 2, 60} {
		x := strips(n, false)
		for _, pair := range [][2]int{{-1, 0}, {0, -1}, {-1, -1}, {n, 0}, {0, n}, {n, n}, {-1, n}, {math.MinInt, 0}, {0, math.MinInt}, {math.MaxInt, 0}, {0, math.MaxInt}, {math.MinInt, math.MaxInt}} {
			if ok, e := plan.Left(x, pair[0], pair[1]); ok || e != api.ErrArg {
				t.Errorf("%d rooms, Left of %v: %t, %d", n, pair, ok, e)
			}
			if ok, e := plan.Above(x, pair[0], pair[1]); ok || e != api.ErrArg {
				t.Errorf("%d rooms, Above of %v: %t, %d", n, pair, ok, e)
			}
		}
	}
}

// P3.4: IsPinwheel by the definition, for all lists of rooms, and of numbers that are none.
func TestIsPinwheel(t *testing.T) {
	wheels := 0
	check := func(x plan.Plan, beyond int) {
		left, above := leftOf(x), aboveOf(x)
		n := len(x)
		tuples(-beyond, n-1+beyond, func(a, b, c, d int) {
			want := min(a, b, c, d) >= 0 && max(a, b, c, d) < n && pinned(left, above, a, b, c, d)
			if want {
				wheels++
			}
			if plan.IsPinwheel(x, [4]int{a, b, c, d}) != want {
				t.Fatalf("IsPinwheel(%v, %d, %d, %d, %d): %t", x, a, b, c, d, !want)
			}
		})
	}
	for _, x := range floorsTo(5) {
		check(x, 1)
	}
	for _, x := range floors(6) {
		if pinwheels(x) > 0 {
			check(x, 0)
		}
	}
	if wheels == 0 {
		t.Error("no pinwheels")
	}
}

// P3.4: both kinds of pinwheels, worked out by hand: the chapter's example, and the one that turns the other way.
func TestPinwheelCases(t *testing.T) {
	for _, x := range []plan.Plan{
		{{0, 0, 3, 1}, {0, 1, 2, 5}, {2, 1, 3, 4}, {3, 0, 5, 4}, {2, 4, 5, 5}},
		{{0, 0, 1, 3}, {1, 0, 5, 2}, {1, 2, 4, 3}, {0, 3, 4, 5}, {4, 2, 5, 5}},
	} {
		must(t, plan.Check(x))
		rooms, ok, e := plan.Pinwheel(x)
		if rooms != [4]int{0, 1, 3, 4} || !ok || e != api.OK {
			t.Errorf("Pinwheel(%v): %v, %t, %d", x, rooms, ok, e)
		}
		for _, p := range lists(5) {
			rooms := [4]int(p)
			if plan.IsPinwheel(x, rooms) != (rooms == [4]int{0, 1, 3, 4}) {
				t.Errorf("IsPinwheel(%v, %v)", x, rooms)
			}
		}
		for _, rooms := range [][4]int{{0, 0, 0, 0}, {0, 1, 3, 3}, {0, 1, 1, 4}, {-1, 1, 3, 4}, {0, 1, 3, 5}, {math.MinInt, 1, 3, math.MaxInt}, {0, 1, 3, math.MaxInt}} {
			if plan.IsPinwheel(x, rooms) {
				t.Errorf("IsPinwheel(%v, %v)", x, rooms)
			}
		}
	}
}

// P3.4 and P3.8: Pinwheel finds one just if there is one, that is, just if the Baxter permutation is not separable, and there is no cut tree.
func TestPinwheel(t *testing.T) {
	check := func(x plan.Plan, want bool) {
		t.Helper()
		rooms, ok, e := plan.Pinwheel(x)
		if ok != want || ok != plan.IsPinwheel(x, rooms) || !ok && rooms != [4]int{} || e != api.OK {
			t.Fatalf("Pinwheel(%v): %v, %t, %d", x, rooms, ok, e)
		}
		left, above := leftOf(x), aboveOf(x)
		if ok && !pinned(left, above, rooms[0], rooms[1], rooms[2], rooms[3]) {
			t.Fatalf("Pinwheel(%v): %v", x, rooms)
		}
		p, e := plan.Baxter(x)
		must(t, e)
		_, a, _ := perm.Find(p, []int{1, 3, 0, 2})
		_, b, _ := perm.Find(p, []int{2, 0, 3, 1})
		_, cut, e := plan.Slice(x)
		if ok != (a || b) || ok == cut || e != api.OK {
			t.Fatalf("%v: pinwheel %t, patterns %t, %t, cuts %t", x, ok, a, b, cut)
		}
	}
	for _, x := range floorsTo(7) {
		check(x, pinwheels(x) > 0)
	}
	for _, x := range big(t) {
		check(x, !guillotine(x, up(len(x))))
	}
}

// guillotine reports whether rooms, which fill a rectangle, can be separated by walls through all of it, again and again.
func guillotine(x plan.Plan, rooms []int) bool {
	if len(rooms) == 1 {
		return true
	}
	for side := range 2 {
		for at := 1; at < len(x); at++ {
			var before, behind []int
			for _, k := range rooms {
				if x[k][side+2] <= at {
					before = append(before, k)
				}
				if x[k][side] >= at {
					behind = append(behind, k)
				}
			}
			if len(before) > 0 && len(behind) > 0 && len(before)+len(behind) == len(rooms) {
				return guillotine(x, before) && guillotine(x, behind)
			}
		}
	}
	return false
}

// P3.8: the numbers of plans with a cut tree are those of separable permutations.
func TestSliceable(t *testing.T) {
	for n := 1; n <= 7; n++ {
		count := int64(0)
		for _, x := range floors(n) {
			if _, ok, _ := plan.Slice(x); ok {
				count++
			}
		}
		if want, e := perm.Separables(n); count != want || e != api.OK {
			t.Errorf("%d rooms: %d plans with a cut tree, not %d", n, count, want)
		}
	}
	if x := floors(5); !slices.ContainsFunc(x, func(y plan.Plan) bool { return pinwheels(y) > 0 }) {
		t.Error("no pinwheel with five rooms")
	}
}
