package fold_test

import (
	"math/rand"
	"slices"
	"testing"

	"rabbet/api"
	"rabbet/fold"
)

// P5.2: Has, all short words, reduced or not.
func TestHas(t *testing.T) {
	short := map[int][]string{1: words(1, 8), 2: words(2, 5), 3: words(3, 3), 4: words(4, 3)}
	for _, g := range slices.Concat(samples(11, 300), foldedTables()) {
		for _, w := range short[g.K] {
			if x, e := fold.Has(g, w); x != has(g, w) || e != api.OK {
				t.Fatalf("Has(%v, %q): %t, %d", g, w, x, e)
			}
		}
	}
}

// P5.2: Has, words of any length, and such as leave the graph before they are reduced.
func TestHasWords(t *testing.T) {
	line := folded(t, 2, "aa", "b")
	for _, x := range []struct {
		g    fold.Graph
		w    string
		want bool
	}{
		{line, "", true}, {line, "a", false}, {line, "aa", true}, {line, "aB", false}, {line, "abA", false}, {line, "abBA", true}, {line, "abBa", true}, {line, "aAaabB", true}, {line, "abbBBaAA", true}, {line, "abbBBbA", false},
		{line, repeat("a", 30000), true}, {line, repeat("a", 29999), false}, {line, repeat("aab", 10000), true}, {line, repeat("ab", 15000), false}, {line, repeat("ab", 7500) + repeat("BA", 7500), true}, {line, repeat("aA", 15000), true},
		{graphOf(2), "", true}, {graphOf(2), "a", false}, {graphOf(2), "bB", true}, {graphOf(2), repeat("ab", 7500) + repeat("BA", 7500), true}, {graphOf(1, "a"), repeat("a", 30000), true}, {graphOf(1, "a"), repeat("A", 29999), true},
		{circle(2, 'b', 5000), repeat("b", 30000), true}, {circle(2, 'b', 5000), repeat("B", 25000), true}, {circle(2, 'b', 5000), repeat("b", 29999), false}, {circle(2, 'b', 5000), repeat("b", 5000) + "a", false},
	} {
		if ok, e := fold.Has(x.g, x.w); ok != x.want || e != api.OK {
			t.Errorf("Has of %q: %t, %d", brief(x.w), ok, e)
		}
	}
}

// P5.2: Rank, Index, Basis, by the chapter's examples.
func TestGroupExamples(t *testing.T) {
	for _, x := range []struct {
		g     fold.Graph
		index int
		basis []string
	}{
		{folded(t, 2, "aa", "b"), 0, []string{"b", "aa"}}, {folded(t, 2, "aa", "b", "abA"), 2, []string{"b", "aa", "abA"}},
		{folded(t, 1), 0, nil}, {folded(t, 4, "aA"), 0, nil}, {folded(t, 1, "A"), 1, []string{"a"}}, {folded(t, 1, "aaa"), 3, []string{"aaa"}}, {folded(t, 1, "aaaaaaaa", "aaaaaa"), 2, []string{"aa"}},
		{folded(t, 2, "b", "a"), 1, []string{"a", "b"}}, {folded(t, 4, "D", "c", "B", "a"), 1, []string{"a", "b", "c", "d"}}, {folded(t, 4, "c", "b", "a"), 0, []string{"a", "b", "c"}}, {folded(t, 2, "a"), 0, []string{"a"}},
		{folded(t, 2, "abAB"), 0, []string{"baBA"}}, {folded(t, 2, "baBA"), 0, []string{"baBA"}}, {folded(t, 2, "AAbaa"), 0, []string{"AAbaa"}},
		{folded(t, 2, "aa", "bb", "ab"), 2, []string{"bA", "aa", "ab"}}, {folded(t, 2, "aaa", "b", "abA", "aabAA"), 3, []string{"b", "aaa", "abA", "Aba"}},
	} {
		n, e := fold.Rank(x.g)
		if n != len(x.basis) || e != api.OK {
			t.Errorf("Rank(%v): %d, %d", x.g, n, e)
		}
		index, finite, e := fold.Index(x.g)
		if index != x.index || finite != (x.index > 0) || e != api.OK {
			t.Errorf("Index(%v): %d, %t, %d", x.g, index, finite, e)
		}
		basis, e := fold.Basis(x.g)
		if !slices.Equal(basis, x.basis) || e != api.OK {
			t.Errorf("Basis(%v): %q, %d, not %q", x.g, basis, e, x.basis)
		}
	}
}

// P5.2: Rank, Index, Basis, by the definitions.
func TestGroups(t *testing.T) {
	for _, g := range slices.Concat(samples(12, 1500), foldedTables()) {
		want := basisOf(g)
		basis, e := fold.Basis(g)
		if !slices.Equal(basis, want) || e != api.OK {
			t.Fatalf("Basis(%v): %q, %d, not %q", g, basis, e, want)
		}
		if n, e := fold.Rank(g); n != len(want) || e != api.OK {
			t.Fatalf("Rank(%v): %d, %d", g, n, e)
		}
		size := len(g.Next)
		if slices.ContainsFunc(g.Next, func(row []int) bool { return slices.Contains(row, -1) }) {
			size = 0
		}
		if n, finite, e := fold.Index(g); n != size || finite != (size > 0) || e != api.OK {
			t.Fatalf("Index(%v): %d, %t, %d", g, n, finite, e)
		}
	}
}

// P5.1, P5.2: the basis generates the group: a graph, and no other one, comes of its basis again.
func TestBasisGenerates(t *testing.T) {
	for _, g := range slices.Concat(samples(13, 1000), foldedTables()) {
		basis, e := fold.Basis(g)
		must(t, e)
		if len(basis) > 12 {
			continue
		}
		if h := folded(t, g.K, basis...); !same(g, h) {
			t.Fatalf("Fold of the basis of %v, %q: %v", g, basis, h)
		}
	}
}

// P5.2: large graphs.
func TestLargeGroups(t *testing.T) {
	for _, x := range []struct {
		g           fold.Graph
		rank, index int
	}{
		{circle(1, 'a', 5000), 1, 5000}, {circle(2, 'a', 5000), 1, 0}, {necklace(4, 5000, nil), 15001, 5000}, {necklace(4, 5000, func(v, i int) bool { return v == 2500 && i == 3 }), 15000, 0}, {necklace(2, 5000, func(v, _ int) bool { return v > 0 }), 2, 0}, {necklace(2, 5000, func(v, _ int) bool { return v < 4999 }), 2, 0},
	} {
		if n, e := fold.Rank(x.g); n != x.rank || e != api.OK {
			t.Errorf("Rank: %d, %d, not %d", n, e, x.rank)
		}
		if n, finite, e := fold.Index(x.g); n != x.index || finite != (x.index > 0) || e != api.OK {
			t.Errorf("Index: %d, %t, %d, not %d", n, finite, e, x.index)
		}
		basis, e := fold.Basis(x.g)
		if len(basis) != x.rank || e != api.OK || x.rank < 10 && !slices.Equal(basis, basisOf(x.g)) {
			t.Errorf("Basis: %d words, %d, not %d", len(basis), e, x.rank)
		}
		for i := 0; i < len(basis); i += 997 {
			if list, e := fold.Express(x.g, basis[i]); !slices.Equal(list, []int{i + 1}) || e != api.OK {
				t.Errorf("Express of basis word %d: %v, %d", i+1, list, e)
			}
		}
	}
}

// isReduced reports whether no number of an expression in n words is next to its opposite.
func isReduced(list []int, n int) bool {
	for i, x := range list {
		if x == 0 || x > n || -x > n || i > 0 && x == -list[i-1] {
			return false
		}
	}
	return true
}

// P5.2: Express, the chapter's examples and others.
func TestExpress(t *testing.T) {
	line, whole := folded(t, 2, "aa", "b"), folded(t, 2, "aa", "b", "abA")
	for _, x := range []struct {
		g    fold.Graph
		w    string
		want []int
		e    api.Errno
	}{
		{line, "aab", []int{2, 1}, api.OK}, {line, "", nil, api.OK}, {line, "aA", nil, api.OK}, {line, "AA", []int{-2}, api.OK}, {line, "B", []int{-1}, api.OK}, {line, "bbAAbaaB", []int{1, 1, -2, 1, 2, -1}, api.OK}, {line, "abBa", []int{2}, api.OK}, {line, "bBaabBAA", nil, api.OK},
		{line, "a", nil, api.ErrNone}, {line, "abA", nil, api.ErrNone}, {line, "aabA", nil, api.ErrNone}, {line, "baB", nil, api.ErrNone}, {line, "aaba", nil, api.ErrNone},
		{whole, "abA", []int{3}, api.OK}, {whole, "aBA", []int{-3}, api.OK}, {whole, "Aba", []int{-2, 3, 2}, api.OK}, {whole, "abba", []int{3, 3, 2}, api.OK}, {whole, "ab", nil, api.ErrNone},
		{graphOf(3), "", nil, api.OK}, {graphOf(3), "abBA", nil, api.OK}, {graphOf(3), "c", nil, api.ErrNone}, {graphOf(3), "aab", nil, api.ErrNone}, {graphOf(2, "a"), "b", nil, api.ErrNone},
		{graphOf(4, "a", "b", "c", "d"), "dCbA", []int{4, -3, 2, -1}, api.OK}, {graphOf(2, "abAB"), "baBAbaBA", []int{1, 1}, api.OK}, {graphOf(2, "abAB"), "abABabAB", []int{-1, -1}, api.OK},
	} {
		list, e := fold.Express(x.g, x.w)
		if !slices.Equal(list, x.want) || e != x.e {
			t.Errorf("Express(%v, %q): %v, %d, not %v, %d", x.g, x.w, list, e, x.want, x.e)
		}
	}
}

// P5.2: Express, all short words, by the definition.
func TestExpressWords(t *testing.T) {
	short := map[int][]string{1: words(1, 6), 2: words(2, 4), 3: words(3, 3), 4: words(4, 2)}
	for _, g := range slices.Concat(samples(14, 300), foldedTables()) {
		basis := basisOf(g)
		for _, w := range short[g.K] {
			list, e := fold.Express(g, w)
			if !has(g, w) {
				if e != api.ErrNone || len(list) > 0 {
					t.Fatalf("Express(%v, %q): %v, %d", g, w, list, e)
				}
				continue
			}
			if !isReduced(list, len(basis)) || form(written(basis, list)) != form(w) || e != api.OK {
				t.Fatalf("Express(%v, %q): %v, %d", g, w, list, e)
			}
		}
	}
}

// randomList returns a reduced expression in n words.
func randomList(r *rand.Rand, n, count int) []int {
	var out []int
	for n > 0 && len(out) < count {
		x := 1 + r.Intn(n)
		if r.Intn(2) == 0 {
			x = -x
		}
		if len(out) == 0 || n > 0 && out[len(out)-1] != -x {
			out = append(out, x)
		}
	}
	return out
}

// P5.2, P5.6: expressions that are written out are found again; there is no other one.
func TestExpressBack(t *testing.T) {
	r := rand.New(rand.NewSource(15))
	for _, g := range slices.Concat(samples(16, 1500), foldedTables()) {
		basis, e := fold.Basis(g)
		must(t, e)
		for range 5 {
			list := randomList(r, len(basis), r.Intn(30))
			w := written(basis, list)
			if len(w) > api.MaxWord {
				continue
			}
			if x, e := fold.Express(g, w); !slices.Equal(x, list) || e != api.OK {
				t.Fatalf("Express(%v, %q): %v, %d, not %v", g, w, x, e, list)
			}
		}
	}
}

// P5.2: Express, words of any length.
func TestExpressLong(t *testing.T) {
	for _, x := range []struct {
		g    fold.Graph
		w    string
		want []int
	}{
		{graphOf(1, "a"), repeat("a", 30000), slices.Repeat([]int{1}, 30000)}, {graphOf(1, "aaa"), repeat("A", 30000), slices.Repeat([]int{-1}, 10000)}, {graphOf(2, "a", "b"), long, slices.Repeat([]int{1, 2}, 15000)}, {graphOf(2, "aa", "b"), repeat("aab", 10000), slices.Repeat([]int{2, 1}, 10000)}, {graphOf(2, "aa"), repeat("aA", 15000), nil}, {circle(1, 'a', 5000), repeat("A", 30000), slices.Repeat([]int{-1}, 6)},
	} {
		if list, e := fold.Express(x.g, x.w); !slices.Equal(list, x.want) || e != api.OK {
			t.Errorf("Express of %q: %d numbers, %d", brief(x.w), len(list), e)
		}
	}
}

// R4, R7: bases and expressions are new memory, and the same again.
func TestGroupResults(t *testing.T) {
	g := graphOf(2, "aa", "b", "abA")
	for range 2 {
		basis, e := fold.Basis(g)
		must(t, e)
		if !slices.Equal(basis, []string{"b", "aa", "abA"}) {
			t.Fatalf("Basis: %q", basis)
		}
		basis[0] = "x"
		list, e := fold.Express(g, "aab")
		must(t, e)
		if !slices.Equal(list, []int{2, 1}) {
			t.Fatalf("Express: %v", list)
		}
		list[0] = 9
		at, e := fold.Cosets(g, "a")
		must(t, e)
		if !slices.Equal(at, []int{1, 0}) {
			t.Fatalf("Cosets: %v", at)
		}
		at[0] = 9
	}
}
