package perm_test

import (
	"slices"
	"testing"

	"rabbet/api"
	"rabbet/perm"
)

// inverted returns the inversions as a set of bits.
func inverted(p []int) uint64 {
	bits := uint64(0)
	for i, v := range p {
		for _, w := range p[i:] {
			if w < v {
				bits |= 1 << (v*8 + w)
			}
		}
	}
	return bits
}

func within64(a, b uint64) bool {
	return a&^b == 0
}

// strong is the definition.
func strong(p, q []int) bool {
	for i := range len(p) + 1 {
		for j := range p {
			of := func(list []int) int {
				n := 0
				for _, v := range list[:i] {
					if v >= j {
						n++
					}
				}
				return n
			}
			if of(p) > of(q) {
				return false
			}
		}
	}
	return true
}

// P2.3 and P2.9: both orders, by their definitions; the weak one is part of the strong one, and of the order of lists.
func TestOrders(t *testing.T) {
	for n := 1; n <= 5; n++ {
		for _, p := range lists(n) {
			for _, q := range lists(n) {
				weak, e := perm.Weak(p, q)
				if weak != within64(inverted(p), inverted(q)) || e != api.OK {
					t.Fatalf("Weak(%v, %v): %t, %d", p, q, weak, e)
				}
				above, e := perm.Strong(p, q)
				if above != strong(p, q) || e != api.OK {
					t.Fatalf("Strong(%v, %v): %t, %d", p, q, above, e)
				}
				if weak && (!above || slices.Compare(p, q) > 0) {
					t.Fatalf("Weak(%v, %v), but not in the other orders", p, q)
				}
			}
		}
	}
}

// P2.3: cases that tell the orders apart.
func TestOrderCases(t *testing.T) {
	tests := []struct {
		p, q         []int
		weak, strong bool
	}{
		{[]int{0}, []int{0}, true, true},
		{[]int{1, 0}, []int{0, 1}, false, false},
		{[]int{0, 2, 1}, []int{1, 2, 0}, false, true}, // 2 is before 1 in the former alone
		{[]int{0, 2, 1}, []int{2, 0, 1}, true, true},
		{[]int{1, 0, 2}, []int{0, 2, 1}, false, false},
		{[]int{1, 0, 2}, []int{2, 0, 1}, false, true},
		{[]int{1, 2, 0}, []int{2, 0, 1}, false, false},
		{up(api.MaxPerm), down(api.MaxPerm), true, true},
		{down(api.MaxPerm), up(api.MaxPerm), false, false},
		{append(up(58), 59, 58), append([]int{59}, up(59)...), true, true},
		{append(up(58), 59, 58), append([]int{1, 0, 59}, append(up(59)[2:58], 58)...), true, true},
		{append([]int{1, 0}, up(60)[2:]...), append([]int{59}, up(59)...), false, true},
		{append([]int{1, 0}, up(60)[2:]...), append(up(58), 59, 58), false, false},
	}
	for _, x := range tests {
		if ok, e := perm.Weak(x.p, x.q); ok != x.weak || e != api.OK {
			t.Errorf("Weak(%v, %v): %t, %d", x.p, x.q, ok, e)
		}
		if ok, e := perm.Strong(x.p, x.q); ok != x.strong || e != api.OK {
			t.Errorf("Strong(%v, %v): %t, %d", x.p, x.q, ok, e)
		}
	}
}

// bound returns the one of all lists that is on one side of both p and q (above reports that), and of which all others that are are on that side, too.
func bound(all [][]int, p, q uint64, above func(a, b uint64) bool) []int {
	var found []uint64
	for _, r := range all {
		if x := inverted(r); above(x, p) && above(x, q) {
			found = append(found, x)
		}
	}
	for _, r := range all {
		x := inverted(r)
		if above(x, p) && above(x, q) && !slices.ContainsFunc(found, func(y uint64) bool { return !above(y, x) }) {
			return r
		}
	}
	return nil
}

// P2.3 and P2.9: Join and Meet, by their definitions: there is one of each.
func TestLattice(t *testing.T) {
	for n := 1; n <= 4; n++ {
		checkBounds(t, lists(n), 1)
	}
	checkBounds(t, lists(5), 7)
}

func checkBounds(t *testing.T, all [][]int, step int) {
	for i := 0; i < len(all)*len(all); i += step {
		p, q := all[i/len(all)], all[i%len(all)]
		a, b := inverted(p), inverted(q)
		r, e := perm.Join(p, q)
		if want := bound(all, a, b, func(x, y uint64) bool { return within64(y, x) }); want == nil || !same(r, want) || e != api.OK {
			t.Fatalf("Join(%v, %v): %v, %d, not %v", p, q, r, e, want)
		}
		r, e = perm.Meet(p, q)
		if want := bound(all, a, b, within64); want == nil || !same(r, want) || e != api.OK {
			t.Fatalf("Meet(%v, %v): %v, %d, not %v", p, q, r, e, want)
		}
	}
}

// P2.9: the laws of a lattice, for many elements.
func TestLatticeLaws(t *testing.T) {
	join := func(p, q []int) []int { r, e := perm.Join(p, q); must(t, e); must(t, perm.Check(r)); return r }
	meet := func(p, q []int) []int { r, e := perm.Meet(p, q); must(t, e); must(t, perm.Check(r)); return r }
	for seed := range int64(20) {
		p, q, r := mixed(seed, api.MaxPerm), mixed(seed+100, api.MaxPerm), mixed(seed+200, api.MaxPerm)
		if seed%2 == 1 { // near the least one, so that joins are not all the greatest one
			p, q, r = append(up(50), 51, 50, 54, 52, 53, 59, 58, 55, 57, 56), append(up(50), mixed50(seed)...), append(up(50), mixed50(seed+9)...)
		}
		for _, pair := range [][2][]int{
			{join(p, q), join(q, p)}, {meet(p, q), meet(q, p)}, {join(p, p), p}, {meet(p, p), p}, {join(p, meet(p, q)), p}, {meet(p, join(p, q)), p},
			{join(p, join(q, r)), join(join(p, q), r)}, {meet(p, meet(q, r)), meet(meet(p, q), r)}, {join(p, up(60)), p}, {meet(p, down(60)), p}, {join(p, down(60)), down(60)}, {meet(p, up(60)), up(60)},
		} {
			if !same(pair[0], pair[1]) {
				t.Fatalf("seed %d: %v is not %v", seed, pair[0], pair[1])
			}
		}
		for _, pair := range [][2][]int{{p, join(p, q)}, {q, join(p, q)}, {meet(p, q), p}, {meet(p, q), q}} {
			if ok, e := perm.Weak(pair[0], pair[1]); !ok || e != api.OK {
				t.Fatalf("seed %d: %v is not below %v", seed, pair[0], pair[1])
			}
		}
	}
}

// mixed50 returns the numbers from 50 to 59 in some order.
func mixed50(seed int64) []int {
	out := mixed(seed, 10)
	for i := range out {
		out[i] += 50
	}
	return out
}

// P2.9: inverses keep the strong order; the inverse of a Baxter permutation is one.
func TestInverses(t *testing.T) {
	inverse := func(p []int) []int { q, e := perm.Inverse(p); must(t, e); return q }
	for n := 1; n <= 5; n++ {
		for _, p := range lists(n) {
			for _, q := range lists(n) {
				a, _ := perm.Strong(p, q)
				b, _ := perm.Strong(inverse(p), inverse(q))
				if a != b {
					t.Fatalf("Strong(%v, %v) differs for the inverses", p, q)
				}
			}
		}
	}
	for _, p := range upTo(7) {
		_, a, _ := perm.Baxter(p)
		_, b, _ := perm.Baxter(inverse(p))
		if a != b {
			t.Fatalf("Baxter(%v) differs for the inverse", p)
		}
	}
}
