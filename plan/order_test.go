package plan_test

import (
	"fmt"
	"slices"
	"testing"

	"rabbet/api"
	"rabbet/perm"
	"rabbet/plan"
)

// families returns all permutations of n elements by their plans, each family from the least one on.
func families(t *testing.T, n int) map[string][][]int {
	out := map[string][][]int{}
	for _, p := range lists(n) {
		key := fmt.Sprint(of(t, p))
		out[key] = append(out[key], p)
	}
	return out
}

// P3.2: Baxter, by the definition.
func TestBaxter(t *testing.T) {
	for _, x := range append(floorsTo(6), big(t)...) {
		p, e := plan.Baxter(x)
		must(t, e)
		if len(p) != len(x) || perm.Check(p) != api.OK {
			t.Fatalf("Baxter(%v): %v", x, p)
		}
		left, above := leftOf(x), aboveOf(x)
		for i, a := range p {
			for _, b := range p[i:] {
				if left[b][a] || above[a][b] {
					t.Fatalf("Baxter(%v): %v, %d before %d", x, p, a, b)
				}
			}
		}
	}
}

// P3.2 and P3.6: of the permutations with the same plan just one is a Baxter permutation; First is the least one, Count tells how many there are; they are those that keep to what touches.
func TestFamilies(t *testing.T) {
	for n := 1; n <= 7; n++ {
		all := families(t, n)
		plans := floors(n)
		number, e := perm.Baxters(n)
		must(t, e)
		if len(all) != len(plans) || int64(len(plans)) != number {
			t.Fatalf("%d rooms: %d families, %d plans, %d Baxter permutations", n, len(all), len(plans), number)
		}
		perms := lists(n)
		for _, x := range plans {
			checkFamily(t, x, all[fmt.Sprint(x)], perms)
		}
	}
}

func checkFamily(t *testing.T, x plan.Plan, family, perms [][]int) {
	t.Helper()
	if len(family) == 0 {
		t.Fatalf("%v is the plan of no permutation", x)
	}
	var baxter [][]int
	for _, p := range family {
		if _, ok, _ := perm.Baxter(p); ok {
			baxter = append(baxter, p)
		}
	}
	p, e := plan.Baxter(x)
	if len(baxter) != 1 || !slices.Equal(p, baxter[0]) || e != api.OK {
		t.Fatalf("Baxter(%v): %v, %d, not %v", x, p, e, baxter)
	}
	if p, e := plan.First(x); !slices.Equal(p, family[0]) || e != api.OK {
		t.Fatalf("First(%v): %v, %d, not %v", x, p, e, family[0])
	}
	if k, e := plan.Count(x); k != int64(len(family)) || e != api.OK {
		t.Fatalf("Count(%v): %d, %d, not %d", x, k, e, len(family))
	}
	touch := touching(x)
	var kept [][]int
	for _, p := range perms {
		if keeps(p, touch) {
			kept = append(kept, p)
		}
	}
	if !slices.EqualFunc(kept, family, slices.Equal[[]int]) {
		t.Fatalf("%v: %v keep to what touches, not %v", x, kept, family)
	}
}

// P3.2 and P3.6: the same for many rooms.
func TestFamiliesOfMany(t *testing.T) {
	for _, x := range big(t) {
		p, e := plan.Baxter(x)
		must(t, e)
		if _, ok, e := perm.Baxter(p); !ok || e != api.OK || !slices.Equal(of(t, p), x) {
			t.Errorf("Baxter(%v): %v", x, p)
		}
		q, e := plan.First(x)
		must(t, e)
		if !slices.Equal(q, least(x)) || !slices.Equal(of(t, q), x) {
			t.Errorf("First(%v): %v, not %v", x, q, least(x))
		}
	}
}

// least returns the least list that keeps to what touches.
func least(x plan.Plan) []int {
	touch := touching(x)
	var out []int
	for range x {
		for k := range x {
			waits := func(other int) bool { return touch[k][other] && !slices.Contains(out, other) }
			if !slices.Contains(out, k) && !slices.ContainsFunc(up(len(x)), waits) {
				out = append(out, k)
				break
			}
		}
	}
	return out
}

// P3.2: cases that are worked out by hand.
func TestOrderCases(t *testing.T) {
	for _, x := range []struct {
		p, baxter, first []int
		count            int64
	}{
		{[]int{0}, []int{0}, []int{0}, 1},
		{[]int{0, 1}, []int{0, 1}, []int{0, 1}, 1},
		{[]int{1, 0}, []int{1, 0}, []int{1, 0}, 1},
		{[]int{1, 3, 0, 2}, []int{1, 0, 3, 2}, []int{1, 0, 3, 2}, 2},
		{[]int{2, 3, 0, 1}, []int{2, 3, 0, 1}, []int{2, 0, 3, 1}, 2},
		{[]int{1, 4, 2, 0, 3}, []int{1, 4, 2, 0, 3}, []int{1, 4, 2, 0, 3}, 1},
		{up(12), up(12), up(12), 1},
		{down(12), down(12), down(12), 1},
	} {
		y := of(t, x.p)
		if p, e := plan.Baxter(y); !slices.Equal(p, x.baxter) || e != api.OK {
			t.Errorf("Baxter of the plan of %v: %v, %d", x.p, p, e)
		}
		if p, e := plan.First(y); !slices.Equal(p, x.first) || e != api.OK {
			t.Errorf("First of the plan of %v: %v, %d", x.p, p, e)
		}
		if k, e := plan.Count(y); k != x.count || e != api.OK {
			t.Errorf("Count of the plan of %v: %d, %d", x.p, k, e)
		}
	}
}

// walled returns the permutation of two stacks side by side, of n rooms in all.
func walled(n int) []int {
	var p []int
	for k := n/2 - 1; k >= 0; k-- {
		p = append(p, k)
	}
	for k := n - 1; k >= n/2; k-- {
		p = append(p, k)
	}
	return p
}

// choose returns how many sets of k of n things there are.
func choose(n, k int64) int64 {
	out := int64(1)
	for i := range k {
		out = out * (n - i) / (i + 1)
	}
	return out
}

// P3.2: Count up to 12 rooms. Of two stacks side by side, the left one's lowest room comes first, the right one's uppermost last, and in between the others of either stack come from below, whatever comes from the other one.
func TestCount(t *testing.T) {
	for n := 2; n <= 12; n += 2 {
		half := int64(n / 2)
		if k, e := plan.Count(of(t, walled(n))); k != choose(2*half-2, half-1) || e != api.OK {
			t.Errorf("Count of two stacks, %d rooms: %d, %d", n, k, e)
		}
	}
	for seed := range int64(20) {
		x := of(t, mixed(seed, 8+int(seed%5)))
		if k, e := plan.Count(x); k != extensions(touching(x)) || e != api.OK {
			t.Errorf("Count(%v): %d, %d, not %d", x, k, e, extensions(touching(x)))
		}
	}
	for _, p := range [][]int{up(13), down(13), walled(14), mixed(1, 20), up(60), mixed(2, 60)} {
		if k, e := plan.Count(of(t, p)); k != 0 || e != api.ErrLong {
			t.Errorf("Count of the plan of %v: %d, %d", p, k, e)
		}
	}
}

// extensions counts the lists that keep to what touches, by the sets of rooms with which they begin.
func extensions(touch [][]bool) int64 {
	n := len(touch)
	ways := make([]int64, 1<<n)
	ways[0] = 1
	for set := range ways {
		for k := range n {
			waits := func(other int) bool { return touch[k][other] && set>>other&1 == 0 }
			if set>>k&1 == 0 && !slices.ContainsFunc(up(n), waits) {
				ways[set|1<<k] += ways[set]
			}
		}
	}
	return ways[len(ways)-1]
}

// P3.7: the permutations with the same plan are all between two of them in the weak order.
func TestIntervals(t *testing.T) {
	for n := 1; n <= 6; n++ {
		for key, family := range families(t, n) {
			below := bound(family, func(p, q []int) bool { return weak(t, p, q) })
			above := bound(family, func(p, q []int) bool { return weak(t, q, p) })
			if below == nil || above == nil {
				t.Fatalf("%s: no bounds among %v", key, family)
			}
			between := 0
			for _, p := range lists(n) {
				if weak(t, below, p) && weak(t, p, above) {
					between++
				}
			}
			if between != len(family) {
				t.Fatalf("%s: %d permutations from %v to %v, not %d", key, between, below, above, len(family))
			}
			if first, e := plan.First(of(t, below)); !slices.Equal(first, below) || e != api.OK {
				t.Fatalf("First of %s: %v, %d, not %v", key, first, e, below)
			}
		}
	}
}

func weak(t *testing.T, p, q []int) bool {
	ok, e := perm.Weak(p, q)
	must(t, e)
	return ok
}

// bound returns the permutation of a family that is in order before all of it, or nil.
func bound(family [][]int, before func(p, q []int) bool) []int {
	for _, p := range family {
		if !slices.ContainsFunc(family, func(q []int) bool { return !before(p, q) }) {
			return p
		}
	}
	return nil
}

// P3.7: joins of permutations with the same plan have the same plan.
func TestJoins(t *testing.T) {
	join := func(p, q []int) plan.Plan {
		r, e := perm.Join(p, q)
		must(t, e)
		return of(t, r)
	}
	for n := 1; n <= 6; n++ {
		others := lists(n)
		for _, family := range families(t, n) {
			for _, q := range family[1:] {
				for _, r := range others {
					if !slices.Equal(join(family[0], r), join(q, r)) {
						t.Fatalf("joins of %v and %v with %v", family[0], q, r)
					}
				}
			}
		}
	}
}
