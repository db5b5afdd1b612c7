package fold_test

import (
	"math/rand"
	"slices"
	"testing"

	"rabbet/api"
	"rabbet/fold"
)

// P5.4: Normal, the chapter's example and others.
func TestNormalExamples(t *testing.T) {
	for _, x := range []struct {
		k    int
		list []string
		want bool
	}{
		{2, []string{"aa", "b", "abA"}, true}, {2, []string{"aa", "b"}, false}, {1, nil, true}, {4, nil, true}, {1, []string{"aaa"}, true}, {2, []string{"a", "b"}, true}, {2, []string{"a"}, false}, {2, []string{"b"}, false}, {4, []string{"a", "b", "c"}, false}, {4, []string{"a", "b", "c", "d"}, true}, {4, []string{"a", "b", "c", "dd"}, false}, {4, []string{"a", "b", "c", "dd", "daD", "dbD", "dcD"}, true},
		{2, []string{"abAB"}, false}, {2, []string{"aa", "bb", "ab"}, true}, {2, []string{"aaa", "b", "abA", "aabAA"}, true}, {2, []string{"aaa", "b", "aabA", "abAA"}, false}, {2, []string{"aa", "bb", "abab"}, false}, {2, []string{"aa", "bb", "abab", "abba", "baab", "abAB", "aBAb"}, true},
	} {
		if ok, e := fold.Normal(folded(t, x.k, x.list...)); ok != x.want || e != api.OK {
			t.Errorf("Normal of %q: %t, %d", x.list, ok, e)
		}
	}
}

// P5.4: Normal, by the definition, with all words of up to three letters.
func TestNormal(t *testing.T) {
	short := map[int][]string{1: reducedWords(1, 3), 2: reducedWords(2, 3), 3: reducedWords(3, 2), 4: reducedWords(4, 1)}
	list := slices.Concat(samples(31, 200), foldedTables())
	for _, x := range [][2]int{{1, 4}, {2, 2}, {2, 3}, {2, 4}, {3, 2}, {3, 3}} {
		all, e := fold.All(x[0], x[1])
		must(t, e)
		list = append(list, all...)
	}
	normal := 0
	for _, g := range list {
		want := true
		for _, w := range short[g.K] {
			want = want && same(turnOf(g, w), g)
		}
		if ok, e := fold.Normal(g); ok != want || e != api.OK {
			t.Fatalf("Normal(%v): %t, %d", g, ok, e)
		}
		if want {
			normal++
		}
	}
	if normal < 50 {
		t.Errorf("only %d groups are normal", normal)
	}
}

// P5.4: Normal, large graphs, also such as Turn makes too large.
func TestNormalLarge(t *testing.T) {
	for _, x := range []struct {
		g    fold.Graph
		want bool
	}{
		{circle(1, 'a', 5000), true}, {circle(2, 'a', 5000), false}, {circle(2, 'b', 5000), false}, {necklace(4, 5000, nil), true}, {necklace(3, 5000, func(v, i int) bool { return v == 4000 && i == 2 }), false},
		{numbered(2, append(linksOf(necklace(2, 5, nil)), link{})), true},
	} {
		if ok, e := fold.Normal(x.g); ok != x.want || e != api.OK {
			t.Errorf("Normal of %d vertices: %t, %d", len(x.g.Next), ok, e)
		}
	}
}

// P5.4: Cosets, by the definition.
func TestCosets(t *testing.T) {
	short := map[int][]string{1: words(1, 4), 2: words(2, 3), 3: words(3, 2), 4: words(4, 2)}
	r := rand.New(rand.NewSource(32))
	list := slices.Concat(samples(33, 300), foldedTables())
	for _, x := range [][2]int{{1, 4}, {2, 3}, {2, 4}, {3, 3}} {
		all, e := fold.All(x[0], x[1])
		must(t, e)
		list = append(list, all...)
	}
	for _, g := range list {
		_, finite, e := fold.Index(g)
		must(t, e)
		for _, w := range append(short[g.K], randomWord(r, g.K, 50)) {
			var want []int
			e := api.ErrNone
			if finite {
				e = api.OK
				for v := range g.Next {
					want = append(want, way(g, v, w))
				}
			}
			if at, f := fold.Cosets(g, w); !slices.Equal(at, want) || f != e {
				t.Fatalf("Cosets(%v, %q): %v, %d, not %v, %d", g, w, at, f, want, e)
			}
		}
	}
}

// P5.4: Cosets, as many vertices and letters as can be.
func TestCosetsLarge(t *testing.T) {
	g := necklace(3, 5000, nil)
	w := repeat("aab", 10000)
	at, e := fold.Cosets(g, w)
	must(t, e)
	for v := 0; v < 5000; v += 617 {
		if at[v] != way(g, v, w) {
			t.Errorf("Cosets of vertex %d: %d", v, at[v])
		}
	}
	if at, e := fold.Cosets(circle(2, 'a', 5000), "a"); e != api.ErrNone || len(at) > 0 {
		t.Errorf("Cosets: %d", e)
	}
}

// permutations returns all of n elements.
func permutations(n int) [][]int {
	if n == 0 {
		return [][]int{nil}
	}
	var out [][]int
	for _, p := range permutations(n - 1) {
		for i := range n {
			out = append(out, slices.Insert(slices.Clone(p), i, n-1))
		}
	}
	return out
}

// actions calls each with all ways to lead k letters around n vertices that reach them all.
func actions(k, n int, each func(led [][]int)) {
	all := permutations(n)
	led := make([][]int, k)
	var choose func(i int)
	choose = func(i int) {
		if i < k {
			for _, led[i] = range all {
				choose(i + 1)
			}
			return
		}
		met := []int{0}
		for j := 0; j < len(met); j++ {
			for _, p := range led {
				if !slices.Contains(met, p[met[j]]) {
					met = append(met, p[met[j]])
				}
			}
		}
		if len(met) == n {
			each(led)
		}
	}
	choose(0)
}

// allOf returns the graphs of all groups of an index, by the definition.
func allOf(k, n int) []fold.Graph {
	var out []fold.Graph
	actions(k, n, func(led [][]int) {
		var links []link
		for i, p := range led {
			for v, to := range p {
				links = append(links, link{v, i, to})
			}
		}
		out = append(out, numbered(k, links))
	})
	compare := func(g, h fold.Graph) int { return slices.CompareFunc(g.Next, h.Next, slices.Compare[[]int]) }
	slices.SortFunc(out, compare)
	return slices.CompactFunc(out, same)
}

// P5.5: All, by the definition, in the order of Next.
func TestAll(t *testing.T) {
	for k := 1; k <= 3; k++ {
		for n := 1; n <= 4-k/3; n++ {
			all, e := fold.All(k, n)
			want := allOf(k, n)
			if !slices.EqualFunc(all, want, same) || e != api.OK {
				t.Errorf("All(%d, %d): %d graphs, %d, not %d", k, n, len(all), e, len(want))
			}
			for _, g := range all {
				if index, finite, e := fold.Index(g); !isFolded(g) || index != n || !finite || e != api.OK {
					t.Errorf("All(%d, %d): %v", k, n, g)
				}
			}
		}
	}
	two, e := fold.All(2, 2)
	must(t, e)
	if want := []fold.Graph{graphOf(2, "a", "bb", "baB"), graphOf(2, "b", "aa", "abA"), graphOf(2, "aa", "ab", "bb")}; !slices.EqualFunc(two, want, same) {
		t.Errorf("All(2, 2): %v", two)
	}
}

// P5.5: the errors of All and Hall.
func TestAllErrors(t *testing.T) {
	numbers := []int{minInt, -1, 0, 1, 2, 3, 4, 5, 6, 7, 8, 100, maxInt}
	for _, k := range numbers {
		for _, n := range numbers {
			good := k >= 1 && k <= 2 && n >= 1 && n <= 4 || k == 3 && n >= 1 && n <= 3
			if all, e := fold.All(k, n); (e == api.OK) != good || !good && e != api.ErrArg || (len(all) > 0) != good {
				t.Errorf("All(%d, %d): %d graphs, %d", k, n, len(all), e)
			}
			good = k >= 1 && k <= 4 && n >= 1 && n <= 6
			if count, e := fold.Hall(k, n); (e == api.OK) != good || !good && e != api.ErrArg || (count > 0) != good {
				t.Errorf("Hall(%d, %d): %d, %d", k, n, count, e)
			}
		}
	}
}

// R4: the graphs of All share no memory.
func TestAllMemory(t *testing.T) {
	all, e := fold.All(2, 3)
	must(t, e)
	again, e := fold.All(2, 3)
	must(t, e)
	for i, g := range all {
		for v, row := range g.Next {
			_ = append(row, -9)
			if !slices.EqualFunc(all[i:], again[i:], same) {
				t.Fatalf("All: row %d of graph %d shares memory", v, i)
			}
		}
		spoil(g)
		if !slices.EqualFunc(all[i+1:], again[i+1:], same) {
			t.Fatalf("All: graph %d shares memory", i)
		}
	}
}

// P5.5: Hall, the chapter's example, the groups that All lists, and all ways to lead letters around: (n - 1)! of them are one group.
func TestHall(t *testing.T) {
	for k, row := range [][]int64{{1, 1, 1, 1, 1, 1}, {1, 3, 13, 71, 461, 3447}, {1, 7, 97, 2143, 68641, 3011263}, {1, 15, 625, 54335}} {
		for i, want := range row {
			if n, e := fold.Hall(k+1, i+1); n != want || e != api.OK {
				t.Errorf("Hall(%d, %d): %d, %d, not %d", k+1, i+1, n, e, want)
			}
		}
	}
	for k := 1; k <= 3; k++ {
		for n := 1; n <= 4-k/3; n++ {
			all, e := fold.All(k, n)
			must(t, e)
			if count, e := fold.Hall(k, n); count != int64(len(all)) || e != api.OK {
				t.Errorf("Hall(%d, %d): %d, %d, not %d", k, n, count, e, len(all))
			}
		}
	}
	for _, x := range [][2]int{{1, 5}, {1, 6}, {2, 5}, {3, 4}, {4, 2}, {4, 3}} {
		var ways int64
		actions(x[0], x[1], func([][]int) { ways++ })
		for i := int64(2); i < int64(x[1]); i++ {
			ways /= i
		}
		if count, e := fold.Hall(x[0], x[1]); count != ways || e != api.OK {
			t.Errorf("Hall(%d, %d): %d, %d, not %d", x[0], x[1], count, e, ways)
		}
	}
}

// P5.8: the sum, for all numbers that Hall takes.
func TestHallSum(t *testing.T) {
	factor := func(n, power int) int64 {
		out := int64(1)
		for range power {
			for i := 2; i <= n; i++ {
				out *= int64(i)
			}
		}
		return out
	}
	for k := 1; k <= 4; k++ {
		for n := 1; n <= 6; n++ {
			want := int64(n) * factor(n, k-1)
			for i := 1; i < n; i++ {
				count, e := fold.Hall(k, i)
				must(t, e)
				want -= factor(n-i, k-1) * count
			}
			if count, e := fold.Hall(k, n); count != want || e != api.OK {
				t.Errorf("Hall(%d, %d): %d, %d, not %d", k, n, count, e, want)
			}
		}
	}
}
