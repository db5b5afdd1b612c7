package fold_test

import (
	"math"
	"math/rand"
	"slices"
	"testing"

	"rabbet/api"
	"rabbet/fold"
)

const (
	minInt = math.MinInt
	maxInt = math.MaxInt
)

// long is a word of the greatest length.
var long = repeat("ab", api.MaxWord/2)

// P5.1: Fold, the errors and their order.
func TestFoldErrors(t *testing.T) {
	many := func(n int, w string) []string { return slices.Repeat([]string{w}, n) }
	for _, x := range []struct {
		k     int
		words []string
		want  api.Errno
	}{
		{0, nil, api.ErrArg}, {5, nil, api.ErrArg}, {-1, nil, api.ErrArg}, {minInt, nil, api.ErrArg}, {maxInt, nil, api.ErrArg}, {26, []string{"a"}, api.ErrArg},
		{1, nil, api.OK}, {2, nil, api.OK}, {3, nil, api.OK}, {4, nil, api.OK}, {4, []string{}, api.OK}, {1, []string{""}, api.OK},
		{2, many(12, "ab"), api.OK}, {2, many(13, "ab"), api.ErrLong}, {2, many(13, ""), api.ErrLong}, {2, many(5000, "ab"), api.ErrLong},
		{0, many(13, "1"), api.ErrArg}, {5, []string{"1"}, api.ErrArg}, {2, many(13, "1"), api.ErrLong}, {2, many(13, "c"), api.ErrLong},
		{2, many(12, long[:200]), api.OK}, {2, []string{long[:200]}, api.OK}, {2, []string{long[:201]}, api.ErrLong}, {2, []string{repeat("aA", 100)}, api.OK}, {2, []string{repeat("aA", 101)}, api.ErrLong}, {2, []string{long}, api.ErrLong}, {2, []string{long + "a"}, api.ErrLong},
		{2, []string{"1"}, api.ErrWord}, {2, []string{"a b"}, api.ErrWord}, {2, []string{"é"}, api.ErrWord}, {2, []string{"\xff"}, api.ErrWord}, {2, []string{long + "1"}, api.ErrWord}, {2, []string{long[:200] + "1"}, api.ErrWord}, {1, []string{"b1"}, api.ErrWord}, {1, []string{"-1"}, api.ErrWord},
		{1, []string{"b"}, api.ErrArg}, {1, []string{"B"}, api.ErrArg}, {2, []string{"abc"}, api.ErrArg}, {2, []string{"abC"}, api.ErrArg}, {3, []string{"dD"}, api.ErrArg}, {3, []string{"abcABC"}, api.OK}, {4, []string{"abcdABCD"}, api.OK}, {4, []string{"e"}, api.ErrArg}, {4, []string{"E"}, api.ErrArg}, {4, []string{"z"}, api.ErrArg}, {4, []string{"Z"}, api.ErrArg}, {2, []string{"acCA"}, api.ErrArg},
		{1, []string{repeat("b", 200)}, api.ErrArg}, {1, []string{repeat("b", 201)}, api.ErrLong}, {1, []string{repeat("b", 201) + "1"}, api.ErrWord},
		{1, []string{"b", "1"}, api.ErrArg}, {1, []string{"1", "b"}, api.ErrWord}, {1, []string{"a", "b", repeat("a", 201)}, api.ErrArg}, {1, []string{"a", repeat("a", 201), "b"}, api.ErrLong}, {1, []string{"a", "a", "1"}, api.ErrWord}, {1, append(many(11, "a"), "b"), api.ErrArg},
	} {
		g, e := fold.Fold(x.k, x.words)
		if e != x.want || isZero(g) != (e != api.OK) {
			t.Errorf("Fold(%d, %d words, %q): %v, %d, not %d", x.k, len(x.words), brief(slices.Concat(x.words, []string{""})[0]), g, e, x.want)
		}
	}
}

// P5.1: Fold, the graph of the group.
func TestFoldExamples(t *testing.T) {
	for _, x := range []struct {
		k     int
		words []string
		next  [][]int
	}{
		{1, nil, [][]int{{-1, -1}}}, {1, []string{"", "aA", "Aa"}, [][]int{{-1, -1}}}, {3, nil, [][]int{{-1, -1, -1, -1, -1, -1}}},
		{1, []string{"a"}, [][]int{{0, 0}}}, {1, []string{"A"}, [][]int{{0, 0}}}, {1, []string{"aa"}, [][]int{{1, 1}, {0, 0}}}, {1, []string{"aaa"}, [][]int{{1, 2}, {2, 0}, {0, 1}}}, {1, []string{"AAA"}, [][]int{{1, 2}, {2, 0}, {0, 1}}},
		{1, []string{"aaaa", "aaaaaa"}, [][]int{{1, 1}, {0, 0}}}, {1, []string{"aaaa", "aaa"}, [][]int{{0, 0}}},
		{2, []string{"aa", "b"}, [][]int{{1, 1, 0, 0}, {0, 0, -1, -1}}}, {2, []string{"aa", "b", "abA"}, [][]int{{1, 1, 0, 0}, {0, 0, 1, 1}}},
		{2, []string{"ab"}, [][]int{{1, -1, -1, 1}, {-1, 0, 0, -1}}}, {2, []string{"ba"}, [][]int{{-1, 1, 1, -1}, {0, -1, -1, 0}}}, {2, []string{"aB"}, [][]int{{1, -1, 1, -1}, {-1, 0, -1, 0}}},
		{2, []string{"abA"}, [][]int{{1, -1, -1, -1}, {-1, 0, 1, 1}}}, {2, []string{"bAb", "b"}, [][]int{{0, 0, 0, 0}}}, {2, []string{"ab", "abb"}, [][]int{{0, 0, 0, 0}}},
		{2, []string{"abAB"}, [][]int{{1, -1, 2, -1}, {-1, 0, 3, -1}, {3, -1, -1, 0}, {-1, 2, -1, 1}}},
		{4, []string{"dCb"}, [][]int{{-1, -1, -1, 1, -1, -1, 2, -1}, {-1, -1, 0, -1, 2, -1, -1, -1}, {-1, -1, -1, -1, -1, 1, -1, 0}}},
	} {
		g, e := fold.Fold(x.k, x.words)
		if !same(g, fold.Graph{K: x.k, Next: x.next}) || e != api.OK {
			t.Errorf("Fold(%d, %q): %v, %d, not %v", x.k, x.words, g, e, x.next)
		}
	}
}

// P5.1: Fold, by the definition, folded edge by edge.
func TestFoldRandom(t *testing.T) {
	r := rand.New(rand.NewSource(1))
	for range 4000 {
		k := 1 + r.Intn(4)
		list := randomWords(r, k, 5, 10)
		g, e := fold.Fold(k, list)
		if want := graphOf(k, list...); !same(g, want) || !isFolded(g) || e != api.OK {
			t.Fatalf("Fold(%d, %q): %v, %d, not %v", k, list, g, e, want)
		}
		for _, w := range list {
			if !has(g, w) {
				t.Fatalf("Fold(%d, %q) does not have %q", k, list, w)
			}
		}
	}
	for range 20 {
		k := 2 + r.Intn(3)
		list := randomWords(r, k, 12, 40)
		g, e := fold.Fold(k, list)
		if want := graphOf(k, list...); !same(g, want) || e != api.OK {
			t.Fatalf("Fold(%d, %q): %v, %d, not %v", k, list, g, e, want)
		}
	}
}

// P5.1: the order of generators, their inverses, and generators that others make, do not matter.
func TestFoldGenerators(t *testing.T) {
	r := rand.New(rand.NewSource(2))
	for range 300 {
		k := 2 + r.Intn(3)
		list := randomWords(r, k, 5, 60)
		g := folded(t, k, list...)
		more := slices.Clone(list)
		r.Shuffle(len(more), func(i, j int) { more[i], more[j] = more[j], more[i] })
		for i, w := range more {
			if i%2 == 0 {
				more[i] = back(w)
			}
		}
		if len(list) > 1 {
			more = append(more, list[0]+list[1], list[1]+list[0]+back(list[1]))
		}
		more = append(more, "", "aA")
		if h := folded(t, k, more...); !same(g, h) {
			t.Fatalf("Fold(%d) of %q: %v, of %q: %v", k, list, g, more, h)
		}
	}
}

// elements returns all reduced words of at most some letters that are made of generators without ever being longer.
func elements(generators []string, most int) map[string]bool {
	found := map[string]bool{"": true}
	due := []string{""}
	for len(due) > 0 {
		w := due[0]
		due = due[1:]
		for _, x := range generators {
			for _, next := range []string{form(w + x), form(w + back(x))} {
				if len(next) <= most && !found[next] {
					found[next] = true
					due = append(due, next)
				}
			}
		}
	}
	return found
}

// P5.1, P5.2: just the reduced words of the group have ways that end at 0, and Has reports them.
func TestFoldWays(t *testing.T) {
	short := reducedWords(2, 4)
	r := rand.New(rand.NewSource(3))
	for range 60 {
		list := randomWords(r, 2, 3, 3)
		g := folded(t, 2, list...)
		group := elements(list, 9)
		for w := range group {
			if way(g, 0, w) != 0 {
				t.Fatalf("Fold(2, %q): the way of %q does not end at 0", list, w)
			}
		}
		for _, w := range short {
			if x, e := fold.Has(g, w); x != group[w] || e != api.OK {
				t.Fatalf("Has(Fold(2, %q), %q): %t, %d", list, w, x, e)
			}
		}
	}
}

// P5.1: as many and as long words as can be.
func TestFoldLimits(t *testing.T) {
	r := rand.New(rand.NewSource(4))
	var list []string
	for len(list) < 12 {
		list = append(list, randomWord(r, 4, 200))
	}
	g := folded(t, 4, list...)
	if n, e := fold.Rank(g); !isFolded(g) || n != 12 || e != api.OK {
		t.Errorf("Fold of 12 words of 200 letters: %d vertices, rank %d, %d", len(g.Next), n, e)
	}
	for _, w := range list {
		if ok, _ := fold.Has(g, w); !ok {
			t.Errorf("a generator is not in the group")
		}
	}
	if g := folded(t, 1, repeat("a", 200)); !same(g, circle(1, 'a', 200)) {
		t.Errorf("Fold of a power of 200")
	}
}

// badGraphs returns graphs that are not folded, by what is wrong.
func badGraphs() map[string]fold.Graph {
	with := func(k int, rows ...[]int) fold.Graph { return fold.Graph{K: k, Next: rows} }
	return map[string]fold.Graph{
		"zero value":         {},
		"no nails":           with(0, []int{}),
		"less than no nails": with(-1, []int{}),
		"least int nails":    with(minInt, []int{}),
		"greatest int nails": with(maxInt, []int{}),
		"five nails":         with(5, slices.Repeat([]int{-1}, 10)),
		"no vertices":        with(2),
		"5001 vertices":      circle(1, 'a', 5001),
		"row too short":      with(2, []int{-1, -1, -1}),
		"row too long":       with(1, []int{-1, -1, -1}),
		"row of nil":         with(1, nil),
		"second row short":   with(1, []int{1, 1}, []int{0}),
		"second row long":    with(1, []int{1, 1}, []int{0, 0, 0}),
		"second row of nil":  with(1, []int{1, 1}, nil),
		"less than -1":       with(1, []int{-2, -1}),
		"least int":          with(1, []int{-1, minInt}),
		"greatest int":       with(1, []int{maxInt, -1}),
		"no such vertex":     with(1, []int{1, 1}),
		"does not lead back": with(1, []int{0, -1}),
		"leads elsewhere":    with(1, []int{1, 2}, []int{2, 0}, []int{1, 1}),
		"two lead to one":    with(1, []int{1, 1}, []int{1, 0}),
		"dead end":           with(1, []int{1, -1}, []int{-1, 0}),
		"later dead end":     with(1, []int{1, -1}, []int{2, 0}, []int{-1, 1}),
		"dead end beside":    with(2, []int{0, 0, 1, -1}, []int{-1, -1, -1, 0}),
		"not met":            with(1, []int{0, 0}, []int{1, 1}),
		"none met":           with(1, []int{-1, -1}, []int{1, 1}),
		"later ones not met": with(1, []int{1, 1}, []int{0, 0}, []int{3, 3}, []int{2, 2}),
		"wrong order":        with(1, []int{2, 1}, []int{0, 2}, []int{1, 0}),
		"wrong later order":  with(1, []int{1, 2}, []int{4, 0}, []int{0, 3}, []int{2, 4}, []int{3, 1}),
		"0 is not the first": with(2, []int{-1, 1, -1, -1}, []int{0, 1, -1, -1}),
	}
}

// P5.1: Check, what is wrong with graphs.
func TestCheckBad(t *testing.T) {
	for name, g := range badGraphs() {
		if e := fold.Check(g); e != api.ErrGraph {
			t.Errorf("Check, %s: %d", name, e)
		}
	}
}

// P5.1: Check, all tables of few vertices.
func TestCheckTables(t *testing.T) {
	for _, x := range [][2]int{{1, 1}, {1, 2}, {1, 3}, {1, 4}, {2, 1}, {2, 2}, {3, 1}, {4, 1}} {
		tables(x[0], x[1], func(g fold.Graph) {
			if e := fold.Check(g); (e == api.OK) != isFolded(g) || e != api.OK && e != api.ErrGraph {
				t.Fatalf("Check(%v): %d", g, e)
			}
		})
	}
}

// P5.1: Check, graphs in which a few numbers are changed, and such as are numbered in another order.
func TestCheckChanged(t *testing.T) {
	r := rand.New(rand.NewSource(5))
	good := 0
	for _, g := range samples(6, 1500) {
		if e := fold.Check(g); e != api.OK || !isFolded(g) {
			t.Fatalf("Check(%v): %d", g, e)
		}
		n := len(g.Next)
		for range 8 {
			h := copied(g)
			for range 1 + r.Intn(3) {
				v, x := r.Intn(n), r.Intn(2*h.K)
				to := r.Intn(n+2) - 1
				h.Next[v][x] = to
				if to >= 0 && to < n && r.Intn(2) == 0 {
					h.Next[to][x^1] = v
				}
			}
			if e := fold.Check(h); (e == api.OK) != isFolded(h) {
				t.Fatalf("Check(%v): %d", h, e)
			} else if e == api.OK {
				good++
			}
		}
		order := r.Perm(n)
		h := fold.Graph{K: g.K, Next: make([][]int, n)}
		for v, row := range g.Next {
			h.Next[order[v]] = slices.Clone(row)
			for x, to := range row {
				if to >= 0 {
					h.Next[order[v]][x] = order[to]
				}
			}
		}
		if e := fold.Check(h); (e == api.OK) != isFolded(h) {
			t.Fatalf("Check(%v): %d", h, e)
		}
	}
	if good < 100 {
		t.Errorf("only %d changed graphs are folded", good)
	}
}

// P5.1: Check, the limit of vertices.
func TestCheckLimits(t *testing.T) {
	for _, x := range []struct {
		g    fold.Graph
		want api.Errno
	}{
		{circle(1, 'a', 5000), api.OK}, {circle(1, 'a', 5001), api.ErrGraph}, {circle(4, 'D', 5000), api.OK}, {circle(4, 'd', 5001), api.ErrGraph}, {necklace(4, 5000, nil), api.OK}, {necklace(4, 5001, nil), api.ErrGraph}, {necklace(2, 6000, nil), api.ErrGraph},
	} {
		if e := fold.Check(x.g); e != x.want {
			t.Errorf("Check of %d vertices: %d", len(x.g.Next), e)
		}
	}
}

// calls returns the calls that take graphs, each reporting its error and whether all other results are zero values.
func calls(w string) map[string]func(g fold.Graph) (bool, api.Errno) {
	one := fold.Graph{K: 1, Next: [][]int{{0, 0}}}
	return map[string]func(g fold.Graph) (bool, api.Errno){
		"Check":        func(g fold.Graph) (bool, api.Errno) { return true, fold.Check(g) },
		"Has":          func(g fold.Graph) (bool, api.Errno) { x, e := fold.Has(g, w); return !x, e },
		"Rank":         func(g fold.Graph) (bool, api.Errno) { x, e := fold.Rank(g); return x == 0, e },
		"Index":        func(g fold.Graph) (bool, api.Errno) { n, ok, e := fold.Index(g); return n == 0 && !ok, e },
		"Basis":        func(g fold.Graph) (bool, api.Errno) { x, e := fold.Basis(g); return len(x) == 0, e },
		"Express":      func(g fold.Graph) (bool, api.Errno) { x, e := fold.Express(g, w); return len(x) == 0, e },
		"Meet, first":  func(g fold.Graph) (bool, api.Errno) { x, e := fold.Meet(g, one); return isZero(x), e },
		"Meet, second": func(g fold.Graph) (bool, api.Errno) { x, e := fold.Meet(one, g); return isZero(x), e },
		"Meet, both":   func(g fold.Graph) (bool, api.Errno) { x, e := fold.Meet(g, g); return isZero(x), e },
		"Join, first":  func(g fold.Graph) (bool, api.Errno) { x, e := fold.Join(g, one); return isZero(x), e },
		"Join, second": func(g fold.Graph) (bool, api.Errno) { x, e := fold.Join(one, g); return isZero(x), e },
		"Join, both":   func(g fold.Graph) (bool, api.Errno) { x, e := fold.Join(g, g); return isZero(x), e },
		"Turn":         func(g fold.Graph) (bool, api.Errno) { x, e := fold.Turn(g, w); return isZero(x), e },
		"Normal":       func(g fold.Graph) (bool, api.Errno) { x, e := fold.Normal(g); return !x, e },
		"Cosets":       func(g fold.Graph) (bool, api.Errno) { x, e := fold.Cosets(g, w); return len(x) == 0, e },
	}
}

// P5.1: what Check returns comes first in all calls that take graphs, before what is wrong with words.
func TestGraphErrors(t *testing.T) {
	for _, w := range []string{"", "a", "1", "e", long + "a"} {
		for name, call := range calls(w) {
			for what, g := range badGraphs() {
				if zero, e := call(g); e != api.ErrGraph || !zero {
					t.Errorf("%s of %q, %s: %d, %t", name, brief(w), what, e, zero)
				}
			}
		}
	}
}

// P5.1: of a word, what chapter 4's Check returns comes first, then nails that the graph does not have.
func TestWordErrors(t *testing.T) {
	for _, x := range []struct {
		k    int
		w    string
		want api.Errno
	}{
		{1, "1", api.ErrWord}, {1, "a b", api.ErrWord}, {1, "b1", api.ErrWord}, {4, "é", api.ErrWord}, {4, "\xff", api.ErrWord}, {1, long + "1", api.ErrWord}, {2, long + long + " ", api.ErrWord},
		{2, long + "a", api.ErrLong}, {1, long + "a", api.ErrLong}, {1, repeat("b", 30001), api.ErrLong}, {4, repeat("aA", 15001), api.ErrLong},
		{1, long, api.ErrArg}, {1, "b", api.ErrArg}, {1, "B", api.ErrArg}, {1, "bB", api.ErrArg}, {2, "abc", api.ErrArg}, {2, "abC", api.ErrArg}, {3, "d", api.ErrArg}, {4, "abcde", api.ErrArg}, {4, "Z", api.ErrArg}, {3, long, api.OK}, {1, repeat("a", 30000), api.OK}, {2, long, api.OK}, {3, "abcABC", api.OK}, {4, "abcdABCD", api.OK},
	} {
		all := fold.Graph{K: x.k, Next: [][]int{make([]int, 2*x.k)}}
		for _, name := range []string{"Has", "Express", "Turn", "Cosets"} {
			if zero, e := calls(x.w)[name](all); e != x.want || zero != (e != api.OK) {
				t.Errorf("%s of %q in %d nails: %d, not %d", name, brief(x.w), x.k, e, x.want)
			}
		}
	}
}

// P5.1, P5.2, P5.4: errors of words come before those of what they are asked about.
func TestWordErrorsFirst(t *testing.T) {
	none := graphOf(2)
	for _, x := range []struct {
		w    string
		want api.Errno
	}{{"1", api.ErrWord}, {long + "a", api.ErrLong}, {"c", api.ErrArg}, {"acCA", api.ErrArg}, {"a", api.ErrNone}} {
		if _, e := fold.Express(none, x.w); e != x.want {
			t.Errorf("Express of %q: %d, not %d", brief(x.w), e, x.want)
		}
		if _, e := fold.Cosets(none, x.w); e != x.want {
			t.Errorf("Cosets of %q: %d, not %d", brief(x.w), e, x.want)
		}
	}
}

// P5.1, P5.3: of two graphs, the first one's errors come first, and then their nails.
func TestPairErrors(t *testing.T) {
	one, two, bad := graphOf(1, "aa"), graphOf(2, "aa"), fold.Graph{K: 2}
	for _, x := range []struct {
		g, h fold.Graph
		want api.Errno
	}{
		{bad, one, api.ErrGraph}, {one, bad, api.ErrGraph}, {bad, bad, api.ErrGraph}, {one, two, api.ErrShape}, {two, one, api.ErrShape}, {graphOf(3), graphOf(4), api.ErrShape}, {graphOf(1), graphOf(2), api.ErrShape}, {one, one, api.OK}, {two, two, api.OK},
		{circle(1, 'a', 5000), circle(2, 'a', 4999), api.ErrShape}, {circle(1, 'a', 5001), two, api.ErrGraph},
	} {
		if g, e := fold.Meet(x.g, x.h); e != x.want || isZero(g) != (e != api.OK) {
			t.Errorf("Meet(%v, %v): %d, not %d", x.g.K, x.h.K, e, x.want)
		}
		if g, e := fold.Join(x.g, x.h); e != x.want || isZero(g) != (e != api.OK) {
			t.Errorf("Join(%v, %v): %d, not %d", x.g.K, x.h.K, e, x.want)
		}
	}
}

// spacious returns a graph whose slices have room beyond their length, with numbers there.
func spacious(g fold.Graph) fold.Graph {
	out := fold.Graph{K: g.K}
	for _, row := range g.Next {
		out.Next = append(out.Next, append(slices.Clone(row), 77, 78)[:len(row)])
	}
	out.Next = append(out.Next, []int{99})[:len(g.Next)]
	return out
}

// R4: graphs that are given are neither changed nor kept, also beyond their length.
func TestArguments(t *testing.T) {
	for _, g := range samples(7, 100) {
		w := repeat(alphabet[2*g.K-2:2*g.K]+"aaA", 3)
		given := spacious(g)
		for name, call := range calls(w) {
			call(given)
			if !same(given, g) {
				t.Fatalf("%s changes %v to %v", name, g, given)
			}
			for i, row := range given.Next {
				if rest := row[:len(row)+2][len(row):]; rest[0] != 77 || rest[1] != 78 {
					t.Fatalf("%s changes what lies beyond row %d", name, i)
				}
			}
			if given.Next[:len(g.Next)+1][len(g.Next)][0] != 99 {
				t.Fatalf("%s changes what lies beyond the rows", name)
			}
		}
	}
	list := []string{"ab", "AB", "aA", "zz"}
	if _, e := fold.Fold(2, list[:3]); e != api.OK || !slices.Equal(list, []string{"ab", "AB", "aA", "zz"}) {
		t.Errorf("Fold changes its words: %q, %d", list, e)
	}
}

// spoil writes all over a graph, also beyond the rows' ends.
func spoil(g fold.Graph) {
	for _, row := range g.Next {
		row = row[:cap(row)]
		for x := range row {
			row[x] = -7
		}
	}
	rows := g.Next[:cap(g.Next)]
	for v := range rows {
		rows[v] = nil
	}
}

// R4, R7: results are new memory, and are the same again.
func TestResults(t *testing.T) {
	for _, g := range samples(8, 100) {
		h := graphOf(g.K, "aa", "aaa", alphabet[2*g.K-2:2*g.K-1])
		before := copied(g)
		for name, call := range map[string]func() (fold.Graph, api.Errno){
			"Fold":           func() (fold.Graph, api.Errno) { return fold.Fold(g.K, []string{"a", "aa"}) },
			"Meet":           func() (fold.Graph, api.Errno) { return fold.Meet(g, h) },
			"Meet, itself":   func() (fold.Graph, api.Errno) { return fold.Meet(g, g) },
			"Join":           func() (fold.Graph, api.Errno) { return fold.Join(g, h) },
			"Join, itself":   func() (fold.Graph, api.Errno) { return fold.Join(g, g) },
			"Join, nothing":  func() (fold.Graph, api.Errno) { return fold.Join(g, graphOf(g.K)) },
			"Turn":           func() (fold.Graph, api.Errno) { return fold.Turn(g, "aa") },
			"Turn, no word":  func() (fold.Graph, api.Errno) { return fold.Turn(g, "") },
			"Turn, and back": func() (fold.Graph, api.Errno) { return fold.Turn(g, "aA") },
		} {
			first, e := call()
			must(t, e)
			kept := copied(first)
			second, e := call()
			must(t, e)
			for v, row := range first.Next {
				_ = append(row, -9, -9)
				if !same(first, kept) {
					t.Fatalf("%s: row %d shares memory with another one", name, v)
				}
			}
			spoil(first)
			if !same(second, kept) || !same(g, before) {
				t.Fatalf("%s: results share memory, or are not the same: %v, %v", name, second, kept)
			}
			if third, _ := call(); !same(third, kept) {
				t.Fatalf("%s: %v, and then %v", name, kept, third)
			}
		}
	}
}

// P1: no call panics, whatever it is given.
func TestNoPanic(t *testing.T) {
	r := rand.New(rand.NewSource(9))
	numbers := []int{-1, 0, 1, 2, 3, -2, 5, minInt, maxInt}
	for range 3000 {
		g := fold.Graph{K: r.Intn(7) - 1}
		for range r.Intn(5) {
			row := make([]int, max(0, 2*g.K+r.Intn(8)/6))
			for x := range row {
				row[x] = numbers[r.Intn(4+r.Intn(6))]
			}
			g.Next = append(g.Next, row)
		}
		for name, call := range calls(randomWord(r, 4, r.Intn(5))) {
			if _, e := call(g); (e == api.ErrGraph) != !isFolded(g) {
				t.Fatalf("%s of %v: %d", name, g, e)
			}
		}
	}
	for _, k := range numbers {
		for _, n := range numbers {
			fold.All(k, n)
			fold.Hall(k, n)
		}
		fold.Fold(k, []string{"a", "\x00"})
	}
}
