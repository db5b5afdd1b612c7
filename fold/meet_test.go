package fold_test

import (
	"math/rand"
	"slices"
	"testing"

	"rabbet/api"
	"rabbet/fold"
)

// meetOf returns the meet by the definition: of all pairs of vertices, those that are met from both vertices 0, without dead ends.
func meetOf(g, h fold.Graph) fold.Graph {
	n := len(h.Next)
	var links []link
	for v := range g.Next {
		for w := range h.Next {
			for x := 0; x < 2*g.K; x += 2 {
				if i, j := g.Next[v][x], h.Next[w][x]; i >= 0 && j >= 0 {
					links = append(links, link{v*n + w, x / 2, i*n + j})
				}
			}
		}
	}
	return numbered(g.K, pruned(links))
}

// P5.3: Meet, the chapter's examples and others.
func TestMeetExamples(t *testing.T) {
	for _, x := range []struct {
		k          int
		g, h, both []string
	}{
		{2, []string{"aa", "b"}, []string{"aaa", "b"}, []string{"aaaaaa", "b"}},
		{1, []string{"aa"}, []string{"aaa"}, []string{"aaaaaa"}}, {1, []string{"aaaa"}, []string{"aaaaaa"}, []string{repeat("a", 12)}}, {1, nil, []string{"a"}, nil}, {1, []string{"a"}, []string{"aaa"}, []string{"aaa"}}, {3, nil, nil, nil},
		{2, []string{"a"}, []string{"b"}, nil}, {2, []string{"ab"}, []string{"ba"}, nil}, {2, []string{"ab"}, []string{"abab"}, []string{"abab"}}, {2, []string{"abA"}, []string{"a", "b"}, []string{"abA"}}, {2, []string{"aba"}, []string{"abb"}, nil}, {2, []string{"a", "bb"}, []string{"aa", "b"}, []string{"aa", "bb"}}, {2, []string{"abA", "bb"}, []string{"abbA", "b"}, []string{"abbA", "bb"}},
		{2, []string{"a", "bab"}, []string{"b"}, nil}, {2, []string{"aabAA", "b"}, []string{"aabbAA", "bbb", "ab"}, []string{"aabbAA", "bbb"}},
	} {
		g, h := folded(t, x.k, x.g...), folded(t, x.k, x.h...)
		if m, e := fold.Meet(g, h); !same(m, graphOf(x.k, x.both...)) || e != api.OK {
			t.Errorf("Meet of %q and %q: %v, %d", x.g, x.h, m, e)
		}
	}
}

// P5.3: Meet, by the definition, and by the words that are in both groups.
func TestMeet(t *testing.T) {
	byNails := map[int][]fold.Graph{}
	for _, g := range samples(21, 120) {
		if len(g.Next) < 12 {
			byNails[g.K] = append(byNails[g.K], g)
		}
	}
	short := map[int][]string{1: reducedWords(1, 12), 2: reducedWords(2, 5), 3: reducedWords(3, 3), 4: reducedWords(4, 2)}
	for k, list := range byNails {
		for _, g := range list {
			for _, h := range list {
				m, e := fold.Meet(g, h)
				if want := meetOf(g, h); !same(m, want) || !isFolded(m) || e != api.OK {
					t.Fatalf("Meet(%v, %v): %v, %d, not %v", g, h, m, e, want)
				}
				for _, w := range short[k] {
					if has(m, w) != (has(g, w) && has(h, w)) {
						t.Fatalf("Meet(%v, %v): %v, %q", g, h, m, w)
					}
				}
			}
		}
	}
}

// P5.3: Meet of groups of finite index, all of them, and of others with them.
func TestMeetFinite(t *testing.T) {
	all := slices.DeleteFunc(foldedTables(), func(g fold.Graph) bool { return g.K != 2 })
	for i := range 3 {
		list, e := fold.All(2, i+2)
		must(t, e)
		all = append(all, list...)
	}
	for i, g := range all {
		for _, h := range all[i%7*7:] {
			m, e := fold.Meet(g, h)
			if want := meetOf(g, h); !same(m, want) || e != api.OK {
				t.Fatalf("Meet(%v, %v): %v, %d, not %v", g, h, m, e, want)
			}
		}
	}
}

// P5.3: Meet and Join, the limit of vertices.
func TestMeetLimits(t *testing.T) {
	bare := func(v, _ int) bool { return true }
	for _, x := range []struct {
		g, h fold.Graph
		size int // 0 for too many
	}{
		{circle(1, 'a', 625), circle(1, 'a', 8), 5000}, {circle(1, 'a', 1667), circle(1, 'a', 3), 0}, {circle(1, 'a', 5000), circle(1, 'a', 5000), 5000}, {circle(1, 'a', 5000), circle(1, 'a', 2500), 5000}, {circle(1, 'a', 5000), circle(1, 'a', 4999), 0}, {circle(3, 'b', 4999), circle(3, 'b', 5000), 0}, {circle(2, 'a', 5000), circle(2, 'b', 5000), 1},
		{necklace(2, 625, nil), necklace(2, 8, nil), 5000}, {necklace(2, 1667, nil), necklace(2, 3, nil), 0}, {necklace(4, 71, nil), necklace(4, 70, nil), 4970}, {necklace(4, 71, nil), necklace(4, 72, nil), 0}, {necklace(4, 5000, nil), necklace(4, 4999, nil), 0}, {necklace(4, 5000, nil), necklace(4, 5000, nil), 5000},
		{necklace(2, 625, bare), necklace(2, 8, nil), 5000}, {necklace(2, 1667, nil), necklace(2, 3, bare), 0}, {necklace(2, 3, bare), necklace(2, 1667, bare), 0},
	} {
		m, e := fold.Meet(x.g, x.h)
		if len(m.Next) != x.size || (e == api.OK) != (x.size > 0) || x.size == 0 && e != api.ErrLong || !isZero(m) != (e == api.OK) {
			t.Errorf("Meet of %d and %d vertices: %d, %d, not %d", len(x.g.Next), len(x.h.Next), len(m.Next), e, x.size)
		}
	}
}

// spiral returns the graph of one word, m - 1 times a, and b; with circles of one edge for the letter c, if there is one.
func spiral(k, m int) fold.Graph {
	links := path(0, 0, repeat("a", m-1)+"b", 1)
	for v := 0; v < m && k > 2; v++ {
		links = append(links, link{v, 2, v})
	}
	return numbered(k, links)
}

// combed returns the necklace with n vertices, one of them without b, and at each an edge of c to a circle of d.
func combed(n, without int) fold.Graph {
	links := path(0, 0, repeat("a", n), 1)
	for v := range n {
		if v != without {
			links = append(links, link{v, 1, v})
		}
		links = append(links, link{v, 2, n + v}, link{n + v, 3, n + v})
	}
	return numbered(4, links)
}

// P5.3: Meet of groups whose pairs are many, of which few belong to the meet: the way goes on through all pairs until it ends, or comes back.
func TestMeetFew(t *testing.T) {
	for _, x := range [][2]int{{3, 5}, {10, 7}, {70, 71}, {71, 71}, {101, 103}, {300, 302}} {
		m, n := x[0], x[1]
		open := func(v, _ int) bool { return v == n/2 }
		if got, e := fold.Meet(spiral(2, m), necklace(2, n, open)); !same(got, graphOf(2)) || e != api.OK {
			t.Errorf("Meet of %d and %d vertices: %d vertices, %d", m, n, len(got.Next), e)
		}
		if got, e := fold.Meet(spiral(4, m), combed(n, n/2)); !same(got, graphOf(4)) || e != api.OK {
			t.Errorf("Meet of %d and %d vertices with dead ends: %d vertices, %d", m, n, len(got.Next), e)
		}
		for _, x := range [][2]fold.Graph{{spiral(2, m), necklace(2, n, nil)}, {spiral(4, m), combed(n, -1)}} {
			got, e := fold.Meet(x[0], x[1])
			if m*n > 5000 {
				if !isZero(got) || e != api.ErrLong {
					t.Errorf("Meet of %d and %d vertices: %d vertices, %d", m, n, len(got.Next), e)
				}
				continue
			}
			want := numbered(x[0].K, path(0, 0, repeat(repeat("a", m-1)+"b", n), 1))
			if !same(got, want) || e != api.OK {
				t.Errorf("Meet of %d and %d vertices: %d vertices, %d", m, n, len(got.Next), e)
			}
		}
	}
	if got, e := fold.Meet(spiral(2, 4000), necklace(2, 4001, func(v, _ int) bool { return v == 2000 })); !same(got, graphOf(2)) || e != api.OK {
		t.Errorf("Meet of thousands of vertices: %d vertices, %d", len(got.Next), e)
	}
}

// P5.3: Join, the chapter's definition, with both bases as generators.
func TestJoin(t *testing.T) {
	byNails := map[int][]fold.Graph{}
	for _, g := range samples(22, 160) {
		byNails[g.K] = append(byNails[g.K], g)
	}
	for k, list := range byNails {
		for _, g := range list {
			for _, h := range list {
				j, e := fold.Join(g, h)
				if want := graphOf(k, slices.Concat(basisOf(g), basisOf(h))...); !same(j, want) || !isFolded(j) || e != api.OK {
					t.Fatalf("Join(%v, %v): %v, %d, not %v", g, h, j, e, want)
				}
			}
		}
	}
}

// P5.3: Join of groups of finite index, and of few vertices.
func TestJoinTables(t *testing.T) {
	list := slices.DeleteFunc(foldedTables(), func(g fold.Graph) bool { return g.K > 2 })
	more, e := fold.All(2, 3)
	must(t, e)
	list = append(list, more...)
	for _, g := range list {
		for _, h := range list {
			if g.K != h.K {
				continue
			}
			j, e := fold.Join(g, h)
			if want := graphOf(g.K, slices.Concat(basisOf(g), basisOf(h))...); !same(j, want) || e != api.OK {
				t.Fatalf("Join(%v, %v): %v, %d, not %v", g, h, j, e, want)
			}
		}
	}
}

// P5.3: Join, the limit of vertices.
func TestJoinLimits(t *testing.T) {
	for _, x := range []struct {
		g, h fold.Graph
		size int // 0 for too many
	}{
		{circle(2, 'a', 2500), circle(2, 'b', 2501), 5000}, {circle(2, 'a', 2501), circle(2, 'b', 2501), 0}, {circle(2, 'b', 2501), circle(2, 'a', 2500), 5000}, {circle(4, 'a', 5000), circle(4, 'd', 5000), 0}, {circle(4, 'a', 5000), circle(4, 'd', 1), 5000}, {circle(4, 'd', 2), circle(4, 'a', 5000), 0},
		{circle(1, 'a', 5000), circle(1, 'a', 4999), 1}, {circle(1, 'a', 5000), circle(1, 'a', 4998), 2}, {circle(1, 'a', 5000), circle(1, 'a', 5000), 5000}, {circle(3, 'c', 5000), graphOf(3), 5000}, {necklace(4, 5000, nil), necklace(4, 4990, nil), 10}, {necklace(4, 5000, nil), circle(4, 'b', 5000), 5000},
	} {
		j, e := fold.Join(x.g, x.h)
		if len(j.Next) != x.size || (e == api.OK) != (x.size > 0) || x.size == 0 && e != api.ErrLong {
			t.Errorf("Join of %d and %d vertices: %d, %d, not %d", len(x.g.Next), len(x.h.Next), len(j.Next), e, x.size)
		}
		if e == api.OK && !isFolded(j) {
			t.Errorf("Join of %d and %d vertices is not folded", len(x.g.Next), len(x.h.Next))
		}
	}
}

// turnOf returns what a group is turned into, by the definition.
func turnOf(g fold.Graph, w string) fold.Graph {
	var list []string
	for _, x := range basisOf(g) {
		list = append(list, form(w+x+back(w)))
	}
	return graphOf(g.K, list...)
}

// P5.3: Turn, by the definition.
func TestTurn(t *testing.T) {
	short := map[int][]string{1: words(1, 3), 2: words(2, 3), 3: words(3, 2), 4: words(4, 1)}
	r := rand.New(rand.NewSource(23))
	for _, g := range slices.Concat(samples(24, 200), foldedTables()) {
		list := slices.Clone(short[g.K])
		for range 3 {
			list = append(list, randomWord(r, g.K, r.Intn(12)))
		}
		for _, x := range basisOf(g) {
			list = append(list, x, x[:len(x)/2], back(x[len(x)/2:])+"a")
		}
		for _, w := range list {
			h, e := fold.Turn(g, w)
			if want := turnOf(g, w); !same(h, want) || !isFolded(h) || e != api.OK {
				t.Fatalf("Turn(%v, %q): %v, %d, not %v", g, w, h, e, want)
			}
		}
	}
}

// P5.3: Turn, which words are in the group.
func TestTurnWords(t *testing.T) {
	short := reducedWords(2, 4)
	for _, x := range [][]string{{"aa", "b"}, {"aa", "b", "abA"}, {"aab"}, {"abAB", "a"}, {"bb"}, nil} {
		g := folded(t, 2, x...)
		for _, w := range reducedWords(2, 3) {
			h, e := fold.Turn(g, w)
			must(t, e)
			for _, y := range short {
				if has(h, y) != has(g, back(w)+y+w) {
					t.Fatalf("Turn of %q by %q: %q", x, w, y)
				}
			}
		}
	}
}

// P5.3: Turn, and back again.
func TestTurnBack(t *testing.T) {
	r := rand.New(rand.NewSource(25))
	for _, g := range samples(26, 300) {
		w := randomWord(r, g.K, r.Intn(2000))
		h, e := fold.Turn(g, w)
		must(t, e)
		if x, e := fold.Turn(h, back(w)); !same(x, g) || e != api.OK {
			t.Fatalf("Turn(%v, %q), and back: %v, %d", g, w, x, e)
		}
	}
}

// P5.3: Turn, the limit of vertices.
func TestTurnLimits(t *testing.T) {
	for _, x := range []struct {
		g    fold.Graph
		w    string
		size int // 0 for too many
	}{
		{graphOf(2, "a"), repeat("b", 4999), 5000}, {graphOf(2, "a"), repeat("b", 5000), 0}, {graphOf(2, "a"), repeat("b", 30000), 0}, {graphOf(2, "a"), repeat("B", 15000) + repeat("b", 15000), 1}, {graphOf(2, "a"), repeat("b", 4998) + repeat("a", 10000), 4999}, {graphOf(2, "a"), repeat("a", 10000) + repeat("b", 4999), 0},
		{graphOf(2), repeat("b", 30000), 1}, {graphOf(2), long, 1}, {graphOf(1, "aaa"), repeat("a", 30000), 3}, {circle(2, 'a', 5000), "b", 0}, {circle(2, 'a', 5000), "a", 5000}, {circle(2, 'a', 5000), "bB", 5000}, {circle(2, 'a', 4999), "B", 5000}, {circle(2, 'a', 4999), "Ba", 5000}, {circle(2, 'a', 4999), "aB", 0}, {circle(2, 'a', 4998), "aB", 5000},
		{necklace(4, 5000, nil), repeat("abcd", 7500), 5000},
	} {
		h, e := fold.Turn(x.g, x.w)
		if len(h.Next) != x.size || (e == api.OK) != (x.size > 0) || x.size == 0 && e != api.ErrLong || isZero(h) != (e != api.OK) {
			t.Errorf("Turn of %d vertices by %q: %d, %d, not %d", len(x.g.Next), brief(x.w), len(h.Next), e, x.size)
		}
		if e == api.OK && !isFolded(h) {
			t.Errorf("Turn of %d vertices by %q is not folded", len(x.g.Next), brief(x.w))
		}
	}
	tail, e := fold.Turn(circle(2, 'a', 10), repeat("b", 4990))
	must(t, e)
	if g, e := fold.Turn(tail, repeat("B", 4990)); !same(g, circle(2, 'a', 10)) || e != api.OK {
		t.Errorf("Turn back of 5000 vertices: %d vertices, %d", len(g.Next), e)
	}
}
