package perm_test

import (
	"math"
	"slices"
	"testing"

	"rabbet/api"
	"rabbet/perm"
)

// P2.2: Inversions and Code, by their definitions.
func TestCode(t *testing.T) {
	if c, e := perm.Code([]int{2, 0, 1}); !same(c, []int{2, 0, 0}) || e != api.OK {
		t.Errorf("Code: %v, %d", c, e)
	}
	for _, p := range append(upTo(6), up(api.MaxPerm), down(api.MaxPerm), mixed(1, api.MaxPerm)) {
		want := make([]int, len(p))
		sum := 0
		for i, v := range p {
			for _, w := range p[i:] {
				if w < v {
					want[i]++
					sum++
				}
			}
		}
		if c, e := perm.Code(p); !same(c, want) || e != api.OK {
			t.Fatalf("Code(%v): %v, %d", p, c, e)
		}
		if n, e := perm.Inversions(p); n != sum || e != api.OK {
			t.Fatalf("Inversions(%v): %d, %d", p, n, e)
		}
		if q, e := perm.FromCode(want); !same(q, p) || e != api.OK {
			t.Fatalf("FromCode(%v): %v, %d", want, q, e)
		}
	}
	if n, _ := perm.Inversions(down(api.MaxPerm)); n != 1770 {
		t.Errorf("Inversions: %d", n)
	}
}

// P2.2: the errors of FromCode, and their order.
func TestFromCodeErrors(t *testing.T) {
	long := make([]int, api.MaxPerm+1)
	wrong := slices.Clone(long)
	wrong[0] = -1
	tests := []struct {
		c    []int
		want api.Errno
	}{
		{nil, api.ErrPerm}, {[]int{}, api.ErrPerm}, {long, api.ErrPerm}, {wrong, api.ErrPerm}, {make([]int, 1000), api.ErrPerm},
		{[]int{1}, api.ErrArg}, {[]int{-1}, api.ErrArg}, {[]int{0, 1}, api.ErrArg}, {[]int{2, 0}, api.ErrArg}, {[]int{2, 2, 0}, api.ErrArg}, {[]int{0, -1, 0}, api.ErrArg},
		{[]int{math.MinInt, 0}, api.ErrArg}, {[]int{0, math.MaxInt, 0}, api.ErrArg}, {append([]int{60}, make([]int, 59)...), api.ErrArg},
		{[]int{0}, api.OK}, {[]int{1, 0}, api.OK}, {[]int{2, 1, 0}, api.OK}, {make([]int, api.MaxPerm), api.OK}, {down(api.MaxPerm), api.OK}, {append([]int{59}, make([]int, 59)...), api.OK},
	}
	for _, x := range tests {
		if p, e := perm.FromCode(x.c); e != x.want || (e != api.OK) != (len(p) == 0) {
			t.Errorf("FromCode(%v): %v, %d, not %d", x.c, p, e, x.want)
		}
	}
}

// P2.2: Rank and Unrank count through all lists of few elements.
func TestRank(t *testing.T) {
	if r, e := perm.Rank([]int{2, 0, 1}); r != 4 || e != api.OK {
		t.Errorf("Rank: %d, %d", r, e)
	}
	for n := 1; n <= 7; n++ {
		all := lists(n)
		for i, p := range all {
			if r, e := perm.Rank(p); r != int64(i) || e != api.OK {
				t.Fatalf("Rank(%v): %d, %d, not %d", p, r, e, i)
			}
			if q, e := perm.Unrank(n, int64(i)); !same(p, q) || e != api.OK {
				t.Fatalf("Unrank(%d, %d): %v, %d, not %v", n, i, q, e, p)
			}
		}
		if p, e := perm.Unrank(n, int64(len(all))); len(p) > 0 || e != api.ErrArg {
			t.Errorf("Unrank(%d, %d): %v, %d", n, len(all), p, e)
		}
	}
}

// P2.2: the limits of Rank and Unrank.
func TestRankLimits(t *testing.T) {
	const all = 2432902008176640000 // 20!
	next := up(20)
	next[0], next[1] = 1, 0 // comes after the 19! lists that begin with 0
	for _, x := range []struct {
		p    []int
		rank int64
	}{{up(20), 0}, {down(20), all - 1}, {next, all / 20}, {append(up(18), 19, 18), 1}} {
		if r, e := perm.Rank(x.p); r != x.rank || e != api.OK {
			t.Errorf("Rank(%v): %d, %d, not %d", x.p, r, e, x.rank)
		}
		if p, e := perm.Unrank(20, x.rank); !same(p, x.p) || e != api.OK {
			t.Errorf("Unrank(20, %d): %v, %d", x.rank, p, e)
		}
	}
	for _, n := range []int{21, 22, api.MaxPerm} {
		if r, e := perm.Rank(up(n)); r != 0 || e != api.ErrLong {
			t.Errorf("Rank of %d elements: %d, %d", n, r, e)
		}
	}
	for seed := range int64(50) {
		p := mixed(seed, 20)
		r, _ := perm.Rank(p)
		if q, e := perm.Unrank(20, r); !same(p, q) || e != api.OK {
			t.Errorf("Unrank(20, %d): %v, %d, not %v", r, q, e, p)
		}
	}
	for _, x := range []struct {
		n    int
		rank int64
	}{
		{0, 0}, {-1, 0}, {21, 0}, {math.MaxInt, 0}, {math.MinInt, 0}, {0, -1}, {1, -1}, {3, -1}, {1, 1}, {2, 2}, {3, 6}, {3, 7},
		{20, all}, {20, all + 1}, {20, math.MaxInt64}, {20, math.MinInt64}, {5, math.MaxInt64}, {19, all / 20},
	} {
		if p, e := perm.Unrank(x.n, x.rank); len(p) > 0 || e != api.ErrArg {
			t.Errorf("Unrank(%d, %d): %v, %d", x.n, x.rank, p, e)
		}
	}
}
