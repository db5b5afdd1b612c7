package perm_test

import (
	"math"
	"math/rand"
	"reflect"
	"slices"
	"testing"

	"rabbet/api"
)

// lists returns all permutations of n elements, the least one first.
func lists(n int) [][]int {
	var out [][]int
	var p []int
	var more func()
	more = func() {
		if len(p) == n {
			out = append(out, slices.Clone(p))
		}
		for v := range n {
			if !slices.Contains(p, v) {
				p = append(p, v)
				more()
				p = p[:len(p)-1]
			}
		}
	}
	more()
	return out
}

// upTo returns all permutations of at most n elements.
func upTo(n int) [][]int {
	var out [][]int
	for i := 1; i <= n; i++ {
		out = append(out, lists(i)...)
	}
	return out
}

// up returns 0 to n - 1.
func up(n int) []int {
	out := []int{}
	for i := range n {
		out = append(out, i)
	}
	return out
}

// down returns n - 1 to 0.
func down(n int) []int {
	out := up(n)
	slices.Reverse(out)
	return out
}

// mixed returns some permutation of n elements, the same one for the same seed.
func mixed(seed int64, n int) []int {
	return rand.New(rand.NewSource(seed)).Perm(n)
}

// faulty returns lists that are no permutations.
func faulty() map[string][]int {
	twice := up(api.MaxPerm)
	twice[api.MaxPerm-1] = 0
	return map[string][]int{
		"nil": nil, "empty": {}, "from 1": {1}, "less than 0": {-1}, "twice": {0, 0}, "twice 1": {1, 1}, "a gap": {0, 2}, "a gap below": {2, 1}, "the last one twice": {0, 1, 1},
		"the number of elements": {0, 1, 3}, "the least int": {0, math.MinInt}, "the greatest int": {math.MaxInt, 0}, "more than are allowed": up(api.MaxPerm + 1), "far more": up(1000), "60, one twice": twice,
	}
}

// same reports whether two lists are the same, empty ones and nil, too.
func same(a, b []int) bool {
	return len(a) == 0 && len(b) == 0 || slices.Equal(a, b)
}

// empty reports whether x is the zero value, or an empty slice.
func empty(x any) bool {
	v := reflect.ValueOf(x)
	return v.IsZero() || v.Kind() == reflect.Slice && v.Len() == 0
}

// sets calls do with each rising list of k numbers below n, the least one first, until it returns false.
func sets(n, k int, do func(at []int) bool) {
	var at []int
	var more func(first int) bool
	more = func(first int) bool {
		if len(at) == k {
			return do(at)
		}
		for i := first; i < n; i++ {
			at = append(at, i)
			ok := more(i + 1)
			at = at[:len(at)-1]
			if !ok {
				return false
			}
		}
		return true
	}
	more(0)
}

// first returns the first occurrence of q in p by trying all lists of positions.
func first(p, q []int) []int {
	var out []int
	sets(len(p), len(q), func(at []int) bool {
		for x := range q {
			for y := range q {
				if (q[x] < q[y]) != (p[at[x]] < p[at[y]]) {
					return true
				}
			}
		}
		out = slices.Clone(at)
		return false
	})
	return out
}

// has reports whether one of the patterns occurs in p.
func has(p []int, patterns ...[]int) bool {
	return slices.ContainsFunc(patterns, func(q []int) bool { return first(p, q) != nil })
}

func separable(p []int) bool {
	return !has(p, []int{1, 3, 0, 2}, []int{2, 0, 3, 1})
}

// must fails if there is an error.
func must(t *testing.T, e api.Errno) {
	t.Helper()
	if e != api.OK {
		t.Fatalf("error %d", e)
	}
}
