package perm_test

import (
	"reflect"
	"slices"
	"testing"

	"rabbet/api"
	"rabbet/perm"
)

// P2.1: Check.
func TestCheck(t *testing.T) {
	for _, p := range append(upTo(6), up(api.MaxPerm), down(api.MaxPerm), mixed(1, api.MaxPerm), mixed(2, api.MaxPerm-1)) {
		if e := perm.Check(p); e != api.OK {
			t.Errorf("Check(%v): %d", p, e)
		}
	}
	for name, p := range faulty() {
		if e := perm.Check(p); e != api.ErrPerm {
			t.Errorf("Check of a list that is faulty (%s): %d", name, e)
		}
	}
	perms := 0
	for x := range 256 { // all lists of four numbers from 0 to 3
		if perm.Check([]int{x & 3, x >> 2 & 3, x >> 4 & 3, x >> 6}) == api.OK {
			perms++
		}
	}
	if perms != 24 {
		t.Errorf("%d lists of four numbers are permutations", perms)
	}
}

// one calls all functions that take one permutation; the results of each end with the error.
func one(p []int) map[string][]any {
	all := func(x ...any) []any { return x }
	pack := map[string][]any{}
	pack["Inverse"] = all(perm.Inverse(p))
	pack["Inversions"] = all(perm.Inversions(p))
	pack["Code"] = all(perm.Code(p))
	pack["Rank"] = all(perm.Rank(p))
	pack["Sort"] = all(perm.Sort(p))
	pack["Blocks"] = all(perm.Blocks(p))
	pack["Baxter"] = all(perm.Baxter(p))
	return pack
}

// two calls all functions that take two permutations.
func two(p, q []int) map[string][]any {
	all := func(x ...any) []any { return x }
	pack := map[string][]any{}
	pack["After"] = all(perm.After(p, q))
	pack["Weak"] = all(perm.Weak(p, q))
	pack["Strong"] = all(perm.Strong(p, q))
	pack["Join"] = all(perm.Join(p, q))
	pack["Meet"] = all(perm.Meet(p, q))
	pack["Find"] = all(perm.Find(p, q))
	return pack
}

// fails reports whether all calls return an error, and nothing beside it.
func fails(t *testing.T, what string, calls map[string][]any, want api.Errno) {
	t.Helper()
	for name, results := range calls {
		last := len(results) - 1
		if results[last] != want {
			t.Errorf("%s, %s: error %d, not %d", name, what, results[last], want)
		}
		for _, x := range results[:last] {
			if !empty(x) {
				t.Errorf("%s, %s: %v next to an error", name, what, x)
			}
		}
	}
}

// P2.1: what is no permutation comes first, in either place.
func TestErrPerm(t *testing.T) {
	for name, p := range faulty() {
		fails(t, name, one(p), api.ErrPerm)
		fails(t, name+", first", two(p, []int{0, 1}), api.ErrPerm)
		fails(t, name+", first, the second one long", two(p, up(7)), api.ErrPerm)
		fails(t, name+", second", two([]int{0, 1}, p), api.ErrPerm)
		fails(t, name+", second, the first one long", two(up(api.MaxPerm), p), api.ErrPerm)
		fails(t, name+", both", two(p, p), api.ErrPerm)
		if perm.Sorts(p, "io") || perm.Sorts(p, "") || perm.Sorts(p, "ioio") {
			t.Errorf("Sorts, %s", name)
		}
	}
}

// P2.1: both need the same number of elements.
func TestErrShape(t *testing.T) {
	for _, x := range [][2]int{{1, 2}, {2, 1}, {3, 4}, {4, 3}, {59, 60}, {60, 59}, {1, 60}, {60, 1}} {
		pack := two(up(x[0]), up(x[1]))
		delete(pack, "Find")
		fails(t, "different numbers", pack, api.ErrShape)
	}
}

// P2.1: Inverse and After.
func TestInverse(t *testing.T) {
	q, e := perm.Inverse([]int{2, 0, 1})
	if !same(q, []int{1, 2, 0}) || e != api.OK {
		t.Errorf("Inverse: %v, %d", q, e)
	}
	for _, p := range append(upTo(5), mixed(3, api.MaxPerm)) {
		q, e := perm.Inverse(p)
		must(t, e)
		for v := range p {
			if len(q) != len(p) || q[v] != slices.Index(p, v) {
				t.Fatalf("Inverse(%v): %v", p, q)
			}
		}
	}
}

func TestAfter(t *testing.T) {
	r, e := perm.After([]int{2, 0, 1}, []int{0, 2, 1})
	if !same(r, []int{2, 1, 0}) || e != api.OK {
		t.Errorf("After: %v, %d", r, e)
	}
	for n := 1; n <= 4; n++ {
		for _, p := range lists(n) {
			for _, q := range lists(n) {
				r, e := perm.After(p, q)
				must(t, e)
				for i := range n {
					if len(r) != n || r[i] != p[q[i]] {
						t.Fatalf("After(%v, %v): %v", p, q, r)
					}
				}
			}
		}
	}
	p := mixed(4, api.MaxPerm)
	q, _ := perm.Inverse(p)
	if r, e := perm.After(p, q); !same(r, up(api.MaxPerm)) || e != api.OK {
		t.Errorf("After of the inverse: %v, %d", r, e)
	}
}

// within returns p as a part of a longer slice, and all of that.
func within(p []int) ([]int, []int) {
	whole := append(slices.Clone(p), 7, 7, 7)
	return whole[:len(p)], whole
}

// spoil changes all numbers of a result.
func spoil(x any) {
	switch y := x.(type) {
	case []int:
		y = y[:cap(y)]
		for i := range y {
			y[i] = -9
		}
	case perm.Tree:
		spoil(y.Perm)
		for i := range y.Parts {
			spoil(y.Parts[i])
			y.Parts[i] = perm.Tree{Kind: -9}
		}
	}
}

// calls makes all calls that take permutations.
func calls(p, q []int) map[string][]any {
	out := one(p)
	for name, results := range two(p, q) {
		out[name] = results
	}
	return out
}

// R4: arguments are not changed, and results share nothing with them, nor with those of another call.
func TestMemory(t *testing.T) {
	for _, p := range [][]int{{0}, {1, 3, 0, 2}, {0, 1, 2, 3}, {3, 1, 2, 0}, {2, 5, 1, 0, 4, 3}, mixed(5, 20)} {
		q := mixed(int64(len(p)), len(p))
		a, wholeA := within(p)
		b, wholeB := within(q)
		wantA, wantB := slices.Clone(wholeA), slices.Clone(wholeB)
		once, again := calls(a, b), calls(a, b)
		for _, results := range once {
			for _, x := range results {
				spoil(x)
			}
		}
		if !slices.Equal(wholeA, wantA) || !slices.Equal(wholeB, wantB) {
			t.Fatalf("arguments were changed: %v, %v", wholeA, wholeB)
		}
		if !reflect.DeepEqual(again, calls(a, b)) {
			t.Fatalf("results for %v and %v share memory with others", p, q)
		}
	}
	c, whole := within([]int{2, 1, 0, 0})
	want := slices.Clone(whole)
	p, e := perm.FromCode(c)
	must(t, e)
	spoil(p)
	if !slices.Equal(whole, want) {
		t.Errorf("FromCode changes its argument: %v", whole)
	}
}
