package fold_test

import (
	"slices"
	"testing"

	"rabbet/fold"
)

// P5.6: no reduced expression but the empty one is the empty wire, nor are two of them the same wire.
func TestFree(t *testing.T) {
	for _, g := range slices.Concat(samples(41, 150), foldedTables()) {
		basis, e := fold.Basis(g)
		must(t, e)
		if len(basis) > 7 {
			continue
		}
		found := map[string][]int{}
		lists := [][]int{nil}
		for i := 0; i < len(lists) && len(lists) < 400; i++ {
			list := lists[i]
			w := form(written(basis, list))
			if other, ok := found[w]; ok {
				t.Fatalf("%v and %v are the same wire in %q", list, other, basis)
			}
			found[w] = list
			for x := -len(basis); x <= len(basis); x++ {
				if next := append(slices.Clone(list), x); isReduced(next, len(basis)) {
					lists = append(lists, next)
				}
			}
		}
	}
}

// P5.6: the rank is the number of edges less that of vertices, plus 1; of a finite index, the rank less 1 is the index times k - 1.
func TestRanks(t *testing.T) {
	list := slices.Concat(samples(42, 2000), foldedTables())
	for _, x := range [][2]int{{1, 3}, {1, 4}, {2, 3}, {2, 4}, {3, 2}, {3, 3}} {
		all, e := fold.All(x[0], x[1])
		must(t, e)
		list = append(list, all...)
	}
	for _, g := range list {
		rank, e := fold.Rank(g)
		must(t, e)
		if rank != len(linksOf(g))-len(g.Next)+1 {
			t.Fatalf("Rank(%v): %d", g, rank)
		}
		basis, e := fold.Basis(g)
		must(t, e)
		if rank != len(basis) {
			t.Fatalf("Rank(%v): %d, basis %q", g, rank, basis)
		}
		index, finite, e := fold.Index(g)
		must(t, e)
		if finite && rank-1 != index*(g.K-1) {
			t.Fatalf("Rank(%v): %d, index %d", g, rank, index)
		}
	}
}

// over returns the rank of a group less 1, but not less than 0.
func over(t *testing.T, g fold.Graph) int {
	t.Helper()
	rank, e := fold.Rank(g)
	must(t, e)
	return max(rank-1, 0)
}

// P5.7: the rank of a meet.
func TestHannaNeumann(t *testing.T) {
	byNails := map[int][]fold.Graph{}
	for _, g := range slices.Concat(samples(43, 300), foldedTables()) {
		byNails[g.K] = append(byNails[g.K], g)
	}
	all, e := fold.All(2, 3)
	must(t, e)
	byNails[2] = append(byNails[2], all...)
	most := 0
	for _, list := range byNails {
		for i, g := range list {
			for j := i % 3; j < len(list); j += 3 {
				m, e := fold.Meet(g, list[j])
				must(t, e)
				if over(t, m) > over(t, g)*over(t, list[j]) {
					t.Fatalf("Meet(%v, %v): %v", g, list[j], m)
				}
				most = max(most, over(t, m))
			}
		}
	}
	if most < 4 {
		t.Errorf("no meet has a rank of more than %d", most+1)
	}
}

// W2: the meet and the join of a group with itself, with the empty group and with all wires.
func TestMeetJoinLaws(t *testing.T) {
	for _, g := range samples(44, 400) {
		nothing, all := graphOf(g.K), fold.Graph{K: g.K, Next: [][]int{make([]int, 2*g.K)}}
		for _, x := range []struct {
			call func(g, h fold.Graph) fold.Graph
			h    fold.Graph
			want fold.Graph
		}{
			{meet(t), g, g}, {meet(t), nothing, nothing}, {meet(t), all, g}, {join(t), g, g}, {join(t), nothing, g}, {join(t), all, all},
		} {
			if y := x.call(g, x.h); !same(y, x.want) {
				t.Fatalf("%v and %v: %v, not %v", g, x.h, y, x.want)
			}
			if y := x.call(x.h, g); !same(y, x.want) {
				t.Fatalf("%v and %v: %v, not %v", x.h, g, y, x.want)
			}
		}
	}
}

func meet(t *testing.T) func(g, h fold.Graph) fold.Graph {
	return func(g, h fold.Graph) fold.Graph {
		m, e := fold.Meet(g, h)
		must(t, e)
		return m
	}
}

func join(t *testing.T) func(g, h fold.Graph) fold.Graph {
	return func(g, h fold.Graph) fold.Graph {
		j, e := fold.Join(g, h)
		must(t, e)
		return j
	}
}
