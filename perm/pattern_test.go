package perm_test

import (
	"math"
	"testing"

	"rabbet/api"
	"rabbet/perm"
)

// P2.4: the first occurrence is that which trying all lists of positions finds first.
func TestFind(t *testing.T) {
	patterns := upTo(4)
	for _, p := range upTo(6) {
		for _, q := range patterns {
			want := first(p, q)
			at, ok, e := perm.Find(p, q)
			if !same(at, want) || ok != (want != nil) || e != api.OK {
				t.Fatalf("Find(%v, %v): %v, %t, %d, not %v", p, q, at, ok, e, want)
			}
		}
	}
	for seed := range int64(40) {
		p := mixed(seed, 14)
		for _, q := range [][]int{mixed(seed, 5), mixed(seed+1, 5), mixed(seed, 6), mixed(seed+1, 6), {0, 1, 2, 3, 4}, {5, 4, 3, 2, 1, 0}} {
			want := first(p, q)
			if at, ok, e := perm.Find(p, q); !same(at, want) || ok != (want != nil) || e != api.OK {
				t.Fatalf("Find(%v, %v): %v, %t, %d, not %v", p, q, at, ok, e, want)
			}
		}
	}
}

// P2.4: cases and limits.
func TestFindCases(t *testing.T) {
	late := append(up(57), 58, 59, 57) // all but the last three elements are too small
	tests := []struct {
		p, q, at []int
		e        api.Errno
	}{
		{[]int{0}, []int{0}, []int{0}, api.OK},
		{[]int{0}, []int{0, 1}, nil, api.OK},
		{[]int{0, 1}, []int{0, 1, 2, 3, 4, 5}, nil, api.OK},
		{[]int{1, 3, 0, 2}, []int{1, 3, 0, 2}, []int{0, 1, 2, 3}, api.OK},
		{[]int{1, 3, 0, 2}, []int{2, 0, 3, 1}, nil, api.OK},
		{[]int{1, 4, 2, 0, 3}, []int{1, 2, 0}, []int{0, 1, 3}, api.OK}, // 0, 2, 3 comes later
		{up(api.MaxPerm), up(6), []int{0, 1, 2, 3, 4, 5}, api.OK},
		{down(api.MaxPerm), up(2), nil, api.OK},
		{up(api.MaxPerm), []int{0, 1, 2, 3, 5, 4}, nil, api.OK},
		{late, []int{1, 2, 0}, []int{57, 58, 59}, api.OK},
		{late, []int{0, 1, 2, 4, 3}, []int{0, 1, 2, 57, 59}, api.OK},
		{up(api.MaxPerm), up(7), nil, api.ErrLong},
		{[]int{0}, up(7), nil, api.ErrLong},
		{up(7), up(7), nil, api.ErrLong},
		{up(7), up(api.MaxPerm), nil, api.ErrLong},
		{[]int{0, 0}, up(7), nil, api.ErrPerm},
		{up(7), []int{0, 1, 2, 3, 4, 5, 7}, nil, api.ErrPerm},
	}
	for _, x := range tests {
		if at, ok, e := perm.Find(x.p, x.q); !same(at, x.at) || ok != (x.at != nil) || e != x.e {
			t.Errorf("Find(%v, %v): %v, %t, %d", x.p, x.q, at, ok, e)
		}
	}
}

// spoiler returns the first positions that rule out that p is a Baxter permutation, by the definition.
func spoiler(p []int) []int {
	for a := range p {
		for j := range p {
			for b := range p {
				if a < j && j+1 < b && (p[j+1] < p[a] && p[a] < p[b] && p[b] < p[j] || p[j] < p[b] && p[b] < p[a] && p[a] < p[j+1]) {
					return []int{a, j, j + 1, b}
				}
			}
		}
	}
	return nil
}

// P2.7: Baxter, by the definition; separable ones are all Baxter permutations (P2.8).
func TestBaxter(t *testing.T) {
	for _, p := range upTo(7) {
		want := spoiler(p)
		if at, ok, e := perm.Baxter(p); !same(at, want) || ok != (want == nil) || e != api.OK {
			t.Fatalf("Baxter(%v): %v, %t, %d, not %v", p, at, ok, e, want)
		}
		if want != nil && separable(p) {
			t.Fatalf("%v is separable", p)
		}
	}
}

func TestBaxterCases(t *testing.T) {
	tests := []struct{ p, at []int }{
		{[]int{0}, nil}, {[]int{1, 0}, nil}, {[]int{1, 3, 0, 2}, []int{0, 1, 2, 3}}, {[]int{2, 0, 3, 1}, []int{0, 1, 2, 3}},
		{[]int{1, 4, 2, 0, 3}, nil}, // 4 and 0 are not neighbours
		{[]int{0, 2, 4, 1, 3}, []int{1, 2, 3, 4}},
		{[]int{2, 5, 1, 0, 4, 3}, []int{0, 1, 2, 4}}, // 0, 1, 2, 5 comes later, and 0, 1, 3, 4 is none
		{[]int{4, 3, 0, 5, 2, 1}, []int{0, 2, 3, 4}}, // later ones: with the last b, with the other a
		{up(api.MaxPerm), nil}, {down(api.MaxPerm), nil},
		{append(up(56), 57, 59, 56, 58), []int{56, 57, 58, 59}},
	}
	for _, x := range tests {
		if at, ok, e := perm.Baxter(x.p); !same(at, x.at) || ok != (x.at == nil) || e != api.OK {
			t.Errorf("Baxter(%v): %v, %t, %d", x.p, at, ok, e)
		}
	}
}

// grown counts Baxter permutations in another way: each of n elements with i places for the greatest one on the left of maxima, and j on the right, leads to those of n + 1 (Bousquet-Melou).
func grown(n int) int64 {
	counts := map[[2]int]int64{{1, 1}: 1}
	for range n - 1 {
		next := map[[2]int]int64{}
		for at, count := range counts {
			for k := 1; k <= at[0]; k++ {
				next[[2]int{k, at[1] + 1}] += count
			}
			for k := 1; k <= at[1]; k++ {
				next[[2]int{at[0] + 1, k}] += count
			}
		}
		counts = next
	}
	sum := int64(0)
	for _, count := range counts {
		sum += count
	}
	return sum
}

// P2.7: the counts.
func TestCounts(t *testing.T) {
	for n := 1; n <= 7; n++ {
		baxter, sep := int64(0), int64(0)
		for _, p := range lists(n) {
			if spoiler(p) == nil {
				baxter++
			}
			if separable(p) {
				sep++
			}
		}
		if got, e := perm.Baxters(n); got != baxter || e != api.OK {
			t.Errorf("Baxters(%d): %d, %d, not %d", n, got, e, baxter)
		}
		if got, e := perm.Separables(n); got != sep || e != api.OK {
			t.Errorf("Separables(%d): %d, %d, not %d", n, got, e, sep)
		}
	}
	schroeder := []int64{1, 2}
	for n := 3; n <= 20; n++ { // their recurrence in three terms
		i := int64(n)
		schroeder = append(schroeder, (3*(2*i-3)*schroeder[n-2]-(i-3)*schroeder[n-3])/i)
	}
	for n := 1; n <= 20; n++ {
		if got, e := perm.Baxters(n); got != grown(n) || e != api.OK {
			t.Errorf("Baxters(%d): %d, %d, not %d", n, got, e, grown(n))
		}
		if got, e := perm.Separables(n); got != schroeder[n-1] || e != api.OK {
			t.Errorf("Separables(%d): %d, %d, not %d", n, got, e, schroeder[n-1])
		}
	}
	for _, n := range []int{0, -1, 21, 22, 60, math.MaxInt, math.MinInt} {
		if got, e := perm.Baxters(n); got != 0 || e != api.ErrArg {
			t.Errorf("Baxters(%d): %d, %d", n, got, e)
		}
		if got, e := perm.Separables(n); got != 0 || e != api.ErrArg {
			t.Errorf("Separables(%d): %d, %d", n, got, e)
		}
	}
}
