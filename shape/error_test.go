package shape_test

import (
	"math"
	"reflect"
	"slices"
	"strings"
	"testing"

	"rabbet/api"
	"rabbet/frac"
	"rabbet/shape"
)

// noComplexes is lists that are no complex, those with ErrComplex first.
func noComplexes() (list [][][]int, long int) {
	list = [][][]int{
		nil,
		{},
		{nil},
		{{}},
		{{0, 1}, {}},
		{{}, {0, 1}},
		{{-1}},
		{{16}},
		{{0, 16}},
		{{-1, 0}},
		{{math.MaxInt}},
		{{math.MinInt}},
		{{0, 1, 2, math.MaxInt}},
		{{1, 0}},
		{{1, 1}},
		{{0, 2, 1}},
		{{0, 1, 2, 2}},
		{{0, 1, 2, 3, 4}},
		{{0, 1, 2, 3, 3}},
		{{0, 1}, {0, 1}},
		{{5}, {0, 1}, {5}},
		{{0, 1, 2, 3}, {4}, {0, 1, 2}, {0, 1, 2, 3}},
		{{0, 1}, {2, 3}, {4, 3}},
		{{0, 1}, {2, 3}, slices.Repeat([]int{0}, 1000)},
		slices.Repeat([][]int{{7}}, 20),
	}
	long = len(list)
	twenty := grown(newRand(1), nil, 20, 16, 1, 4)
	return append(list,
		append(slices.Clone(twenty), []int{0, 1, 2, 16}),
		append(slices.Clone(twenty), twenty[0]),
		append(slices.Clone(twenty), nil),
		grown(newRand(2), nil, 21, 16, 1, 4),
		grown(newRand(3), nil, 21, 16, 4, 4),
		slices.Repeat([][]int{{0}}, 21),
		make([][]int, 1000),
	), long
}

// noComplex calls f with all lists that are no complex, and their errors.
func noComplex(f func(c [][]int, want api.Errno)) {
	list, long := noComplexes()
	for i, c := range list {
		if i < long {
			f(c, api.ErrComplex)
		} else {
			f(c, api.ErrLong)
		}
	}
}

// P9.1
func TestCheck(t *testing.T) {
	noComplex(func(c [][]int, want api.Errno) {
		if e := shape.Check(c); e != want {
			t.Errorf("Check of %v: %d, not %d", c, e, want)
		}
	})
	r := newRand(4)
	for n := 1; n <= 20; n++ {
		c := grown(r, nil, n, 16, 1, 4)
		if e := shape.Check(c); e != api.OK || len(c) != n {
			t.Errorf("Check of %s: %d", text(c), e)
		}
	}
	for _, x := range known() {
		if e := shape.Check(lists(x.facets)); e != api.OK {
			t.Errorf("Check of %s: %d", x.name, e)
		}
	}
	for _, s := range []string{"0", "f", "0f", "cdef", "0123 012 01 0", "0 1 01", "f e d c", "0123 4567 89ab cdef"} {
		if e := shape.Check(lists(s)); e != api.OK {
			t.Errorf("Check of %s: %d", s, e)
		}
	}
}

// expect fails if a call does not have this error, which comes last in its results, or if there is anything else next to it.
func expect(t *testing.T, name string, want api.Errno, l []any) {
	t.Helper()
	last := len(l) - 1
	if l[last] != want {
		t.Fatalf("%s: %d, not %d", name, l[last], want)
	}
	if want != api.OK {
		zero(t, name, l[:last]...)
	}
}

// complexCalls is the functions that take a complex, and nothing that can be wrong.
func complexCalls() map[string]func(c [][]int) []any {
	return map[string]func(c [][]int) []any{
		"Euler":  func(c [][]int) []any { return values(shape.Euler(c)) },
		"Match":  func(c [][]int) []any { return values(shape.Match(c)) },
		"Facets": func(c [][]int) []any { return values(shape.Facets(c)) },
		"Nerve":  func(c [][]int) []any { return values(shape.Nerve(c)) },
		"Cone":   func(c [][]int) []any { return values(shape.Cone(c)) },
		"Double": func(c [][]int) []any { return values(shape.Double(c)) },
	}
}

// dimensionCalls is the functions that take a complex and a dimension.
func dimensionCalls() map[string]func(c [][]int, k int) []any {
	return map[string]func(c [][]int, k int) []any{
		"Faces":    func(c [][]int, k int) []any { return values(shape.Faces(c, k)) },
		"Homology": func(c [][]int, k int) []any { return values(shape.Homology(c, k)) },
		"Cycle":    func(c [][]int, k int) []any { return values(shape.Cycle(c, k)) },
	}
}

// chainCalls is the functions that take a complex, a dimension and a chain.
func chainCalls() map[string]func(c [][]int, k int, chain []frac.Int) []any {
	return map[string]func(c [][]int, k int, chain []frac.Int) []any{
		"Boundary": func(c [][]int, k int, chain []frac.Int) []any { return values(shape.Boundary(c, k, chain)) },
		"Bounds":   func(c [][]int, k int, chain []frac.Int) []any { return values(shape.Bounds(c, k, chain)) },
		"Deny":     func(c [][]int, k int, chain []frac.Int) []any { return values(shape.Deny(c, k, chain)) },
	}
}

// P9.1: a complex that is none comes first, whatever else is wrong.
func TestNoComplex(t *testing.T) {
	noComplex(func(c [][]int, want api.Errno) {
		for name, call := range complexCalls() {
			expect(t, name, want, call(c))
		}
		for _, k := range []int{0, 1, 4, -1, 5} {
			for name, call := range dimensionCalls() {
				expect(t, name, want, call(c, k))
			}
			for _, chain := range [][]frac.Int{nil, small(1), numbers(nines(31))} {
				for name, call := range chainCalls() {
					expect(t, name, want, call(c, k, chain))
				}
				if shape.Denies(c, k, chain, small(1), frac.Whole(0)) || shape.Denies(c, k, chain, nil, frac.Whole(0)) {
					t.Fatalf("Denies of %v", c)
				}
			}
		}
		for _, v := range []int{0, 5, 7, -1, 16} {
			expect(t, "Link", want, values(shape.Link(c, v)))
		}
		for _, pairs := range [][]shape.Pair{nil, {{}}, {{[]int{0}, []int{0, 1}}}, {{[]int{7}, []int{7}}}} {
			expect(t, "Critical", want, values(shape.Critical(c, pairs)))
			if shape.IsMatching(c, pairs) {
				t.Fatalf("IsMatching of %v", c)
			}
		}
	})
}

// P9.1: then the dimension.
func TestNoDimension(t *testing.T) {
	c := lists(plane)
	for _, k := range []int{-1, 5, 6, -2, math.MaxInt, math.MinInt} {
		for name, call := range dimensionCalls() {
			expect(t, name, api.ErrArg, call(c, k))
		}
		for _, chain := range [][]frac.Int{nil, small(1), numbers(nines(31))} {
			for name, call := range chainCalls() {
				expect(t, name, api.ErrArg, call(c, k, chain))
			}
			if shape.Denies(c, k, chain, small(1), frac.Whole(0)) || shape.Denies(c, k, chain, nil, frac.Whole(0)) {
				t.Fatalf("Denies of the dimension %d", k)
			}
		}
	}
	for k := range 5 {
		for name, call := range dimensionCalls() {
			expect(t, name, api.OK, call(c, k))
		}
	}
}

// P9.1: then the number of integers in a chain, and their digits.
func TestNoChain(t *testing.T) {
	long, short := "1"+strings.Repeat("0", 30), nines(30)
	for _, s := range []string{"0", "01 12 02", plane, "0123 4 56"} {
		c := lists(s)
		for k := range 5 {
			n := len(faces(c, k))
			for _, m := range []int{0, 1, n - 1, n + 1, 2 * n, 100} {
				if m == n || m < 0 {
					continue
				}
				for _, one := range []string{"0", long, short} {
					chain := slices.Repeat(numbers(one), m)
					for name, call := range chainCalls() {
						expect(t, name, api.ErrShape, call(c, k, chain))
					}
					for _, f := range [][]frac.Int{chain, make([]frac.Int, n), slices.Repeat(small(1), n)} {
						if shape.Denies(c, k, chain, f, frac.Whole(0)) {
							t.Fatalf("Denies of %d integers", m)
						}
					}
				}
			}
			for at := range n {
				for _, one := range []string{long, "-" + long, nines(31), nines(1000), "-" + nines(20000)} {
					chain := make([]frac.Int, n)
					chain[at] = number(one)
					for name, call := range chainCalls() {
						expect(t, name, api.ErrArg, call(c, k, chain))
					}
					f := make([]frac.Int, n)
					f[at] = frac.Whole(1)
					if shape.Denies(c, k, chain, f, frac.Whole(0)) {
						t.Fatalf("Denies of a chain with %d digits", digits(chain...))
					}
				}
				for _, one := range []string{short, "-" + short} {
					chain := make([]frac.Int, n)
					chain[at] = number(one)
					for name, call := range chainCalls() {
						expect(t, name, api.OK, call(c, k, chain))
					}
				}
			}
		}
	}
}

// P9.4: the errors of those that make complexes, in their order.
func TestMakingErrors(t *testing.T) {
	seven := "01 23 45 67 89 ab cd" // 14 vertices
	for _, x := range []struct {
		facets       string
		cone, double api.Errno
	}{
		{"0123", api.ErrArg, api.ErrArg},
		{"0 12 012 4567", api.ErrArg, api.ErrArg},
		{"cdef 0 1 2 3 4 5 6 7 8 9 a b", api.ErrArg, api.ErrArg}, // no vertex is left, either
		{"0123 4 5 6 7 8 9 a b c d ef 0f 1f 2f 3f 4f 5f 6f 7f", api.ErrArg, api.ErrArg},
		{seven, api.OK, api.OK},
		{seven + " e", api.OK, api.ErrLong},
		{seven + " ef", api.ErrLong, api.ErrLong},
		{"012 345 678 9ab cde f", api.ErrLong, api.ErrLong},
		{"1 2 3 4 5 6 7 8 9 a b c d e f", api.OK, api.ErrLong},
		{"1 2 3 4 5 6 7 8 9 a b c d e", api.OK, api.ErrLong}, // 28 facets
		{"01 02 03 04 12 13 14 23 24 34", api.OK, api.OK},    // 20 facets
		{"01 02 03 04 12 13 14 23 24 34 5", api.OK, api.ErrLong},
		{"0 1 2 3 4 01 02 03 04 12 13 14 23 24 34", api.OK, api.OK}, // 20 that are returned
		{"0 1 2 3 4 5 01 02 03 04 05 12 13 14 15 23 24 25 34 35", api.OK, api.ErrLong},
		{plane, api.OK, api.OK},
		{torus, api.OK, api.ErrLong},
		{plane + " 6", api.OK, api.ErrLong},
	} {
		c := lists(x.facets)
		expect(t, "Cone of "+x.facets, x.cone, values(shape.Cone(c)))
		expect(t, "Double of "+x.facets, x.double, values(shape.Double(c)))
	}
	for _, s := range []string{"0", "13 1f", plane} {
		for _, v := range []int{-1, 2, 4, 6, 15, 16, 17, math.MaxInt, math.MinInt} {
			if c := lists(s); !inSome([]int{v}, c) {
				expect(t, "Link", api.ErrNone, values(shape.Link(c, v)))
			}
		}
	}
}

// withRoom is a complex whose lists have something behind their length.
func withRoom(c [][]int) [][]int {
	out := make([][]int, 0, len(c)+2)
	for _, facet := range c {
		out = append(out, append(slices.Clone(facet), 99, 99)[:len(facet)])
	}
	return append(out, []int{98}, []int{98})[:len(c)]
}

// copied is a complex with its room.
func copied(c [][]int) [][]int {
	var out [][]int
	for _, facet := range c[:cap(c)] {
		out = append(out, slices.Clone(facet[:cap(facet)]))
	}
	return out
}

// R4: arguments are neither changed nor read behind their length.
func TestArgumentsStay(t *testing.T) {
	for _, s := range []string{"01 02 12", "0 012 03 13 4", plane, "0 01 2"} {
		plain, c := lists(s), withRoom(lists(s))
		before := copied(c)
		for name, call := range complexCalls() {
			if x := call(c); !reflect.DeepEqual(x, call(plain)) {
				t.Errorf("%s of %s: %v", name, s, x)
			}
		}
		for k := range 5 {
			for name, call := range dimensionCalls() {
				if x := call(c, k); !reflect.DeepEqual(x, call(plain, k)) {
					t.Errorf("%s of %s: %v", name, s, x)
				}
			}
			n := len(faces(plain, k))
			chain := slices.Repeat(small(3), n)
			room := append(slices.Clone(chain), number(nines(40)))
			for name, call := range chainCalls() {
				if x := call(c, k, room[:n]); !reflect.DeepEqual(x, call(plain, k, chain)) {
					t.Errorf("%s of %s: %v", name, s, x)
				}
			}
			if join(room) != join(append(chain, number(nines(40)))) {
				t.Errorf("a chain of %s has changed: %s", s, join(room))
			}
		}
		if x := must(shape.Link(c, 0)); text(x) != text(must(shape.Link(plain, 0))) {
			t.Errorf("Link of %s: %v", s, x)
		}
		if !reflect.DeepEqual(copied(c), before) {
			t.Errorf("%s has changed: %v", s, copied(c))
		}
	}
}

// R4: results share no memory with arguments or with each other.
func TestResultsAreNew(t *testing.T) {
	c := lists("0 012 03 13 4")
	before := text(c)
	results := func() [][][]int {
		out := [][][]int{must(shape.Facets(c)), must(shape.Nerve(c)), must(shape.Link(c, 0)), must(shape.Cone(c)), must(shape.Double(c))}
		for k := range 3 {
			out = append(out, must(shape.Faces(c, k)))
		}
		for _, p := range must(shape.Match(c)) {
			out = append(out, [][]int{p.Face, p.Over})
		}
		return out
	}
	want := results()
	for i := range want {
		for j := range want[i] {
			got := results()
			for at := range got[i][j] {
				got[i][j][at] = 77
			}
			got[i][j] = append(got[i][j], 78)
			for k := range got {
				for l := range got[k] {
					if (k != i || l != j) && !slices.Equal(got[k][l], want[k][l]) {
						t.Fatalf("a change of result %d, %d changes %d, %d", i, j, k, l)
					}
				}
			}
			if text(c) != before {
				t.Fatalf("a change of result %d, %d changes the complex", i, j)
			}
		}
	}
}

// R7: the same call has the same result.
func TestSameResults(t *testing.T) {
	r := newRand(5)
	for range 30 {
		c := mixed(r)
		for name, call := range complexCalls() {
			want := call(c)
			for range 5 {
				if !reflect.DeepEqual(call(c), want) {
					t.Fatalf("%s of %s is not always the same", name, text(c))
				}
			}
		}
		for k := range 4 {
			for name, call := range dimensionCalls() {
				if !reflect.DeepEqual(call(c, k), call(c, k)) {
					t.Fatalf("%s of %s is not always the same", name, text(c))
				}
			}
			chain := make([]frac.Int, len(faces(c, k)))
			for i := range chain {
				chain[i] = frac.Whole(int64(r.Intn(3)))
			}
			for name, call := range chainCalls() {
				if !reflect.DeepEqual(call(c, k, chain), call(c, k, chain)) {
					t.Fatalf("%s of %s is not always the same", name, text(c))
				}
			}
		}
	}
}

// P1: no call panics, whatever its arguments are.
func TestAnyArguments(t *testing.T) {
	r := newRand(6)
	list := func() []int {
		out := make([]int, r.Intn(6))
		for i := range out {
			out[i] = r.Intn(19) - 1
		}
		if r.Intn(4) > 0 {
			slices.Sort(out)
		}
		return out
	}
	for range 3000 {
		c := make([][]int, r.Intn(5))
		for i := range c {
			c[i] = list()
		}
		for _, call := range complexCalls() {
			call(c)
		}
		k := r.Intn(8) - 1
		for _, call := range dimensionCalls() {
			call(c, k)
		}
		chain := randomChain(r, r.Intn(8))
		for _, call := range chainCalls() {
			call(c, k, chain)
		}
		shape.Denies(c, k, chain, randomChain(r, r.Intn(8)), frac.Whole(int64(r.Intn(5)-1)))
		shape.Link(c, r.Intn(20)-1)
		l := []shape.Pair{{Face: list(), Over: list()}, {Face: list(), Over: list()}}[:r.Intn(3)]
		shape.Critical(c, l)
		if is := shape.IsMatching(c, l); is != (shape.Check(c) == api.OK && isMatching(c, l)) {
			t.Fatalf("IsMatching of %v, %v: %t", c, l, is)
		}
	}
}
