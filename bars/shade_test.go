package bars_test

import (
	"slices"
	"testing"

	"rabbet/api"
	"rabbet/bars"
)

// P10.1: the shades of faces are those of vertices; shades of numbers that are no vertices do not count.
func TestLevels(t *testing.T) {
	for _, x := range []struct{ facets, shades, want string }{
		{"0", "7", "7"},
		{"0", "-1000000", "-1000000"},
		{"01", "1000000 -1000000", "-1000000 1000000"},
		{"01 12 23 03", "0 1 2 3", "0 1 2 3"},
		{"01 12 23 03", "3 2 1 0", "0 1 2 3"},
		{"01 12 23 03", "5 5 5 5", "5"},
		{"01 12", "0 5 1", "0 1 5"},
		{"3", "0 1 2 -9", "-9"},
		{"1 3", "9 4 8 4", "4"},
		{"0 2 012", "-1 -3 -2", "-3 -2 -1"},
		{"f", "1 2 3 4 5 6 7 8 9 10 11 12 13 14 15 0", "0"},
	} {
		got, e := bars.Levels(lists(x.facets), numbers(x.shades))
		if !slices.Equal(got, numbers(x.want)) || e != api.OK {
			t.Errorf("Levels of %s with %s: %v, %d", x.facets, x.shades, got, e)
		}
	}
	r := newRand(11)
	for range 500 {
		c := mixed(r)
		shades := shaded(r, c)
		var want []int
		for _, facet := range c {
			for _, v := range facet {
				want = append(want, shades[v])
			}
		}
		want = slices.Compact(sortedBy(want))
		if got := must(bars.Levels(c, shades)); !slices.Equal(got, want) {
			t.Fatalf("Levels of %s with %v: %v", text(c), shades, got)
		}
	}
}

// P10.1: bars that are worked out by hand, modulo all primes where no others are given.
func TestBarsByHand(t *testing.T) {
	for _, x := range []struct {
		facets, shades, primes, want string
	}{
		{"01 12 23 03", "0 1 2 3", "2 3 5 7", "0:0.. 1:3.."}, // the edges 01 and 03 have the shades 1 and 3
		{"01", "0 5", "2 3 5 7", "0:0.."},
		{"01 12", "0 5 1", "2 3 5 7", "0:0.. 0:1..5"},
		{"0", "-7", "2 3 5 7", "0:-7.."},
		{"2", "5 6 -1000000", "2 3 5 7", "0:-1000000.."},
		{"0 1 2", "3 1 2", "2 3 5 7", "0:1.. 0:2.. 0:3.."},
		{"0 1 2", "4 4 4", "2 3 5 7", "0:4.. 0:4.. 0:4.."},
		{"01 23 13", "0 9 0 8", "2 3 5 7", "0:0..9 0:0.."},
		{"0 01 2 12", "1 1000000 -1000000", "2 3 5 7", "0:-1000000.. 0:1..1000000"},
		{"03 13 23", "0 0 0 2", "2 3 5 7", "0:0..2 0:0..2 0:0.."},
		{"04 14 25 35 45", "0 1 0 1 3 2", "2 3 5 7", "0:0..3 0:0.. 0:1..2 0:1..3"},
		{"012", "0 1 2", "2 3 5 7", "0:0.."},
		{"013 123 023", "0 0 0 4", "2 3 5 7", "0:0.. 1:0..4"},
		{"013 123 023 02", "0 0 0 -4", "2 3 5 7", "0:-4.."},
		{"024 034 134 124", "0 0 0 0 6", "2 3 5 7", "0:0.. 1:0..6"}, // four edges around, until 4 fills them
		{"013 023 123 012", "0 1 2 3", "2 3 5 7", "0:0.. 2:3.."},
		{"0134 0234 1234 0124", "0 0 0 0 5", "2 3 5 7", "0:0.. 2:0..5"},
		{solids, "0 1 2 3 4", "2 3 5 7", "0:0.. 3:4.."},
		{solids, "9 9 9 9 -9", "2 3 5 7", "0:-9.. 3:9.."},
		{plane, "0 0 0 0 0 0", "2", "0:0.. 1:0.. 2:0.."},
		{plane, "0 0 0 0 0 0", "3 5 7", "0:0.."},
		{plane, "0 1 2 3 4 5", "2", "0:0.. 1:3.. 2:5.."}, // 0 to 4 are a band of Moebius, around which 1 2 3 goes once
		{plane, "0 1 2 3 4 5", "3 5 7", "0:0.. 1:3..5"},
		{moore3, "0 0 0 0 0 0 0 0", "3", "0:0.. 1:0.. 2:0.."},
		{moore3, "0 0 0 0 0 0 0 0", "2 5 7", "0:0.."},
		{moore4, "1 1 1 1 1 1 1 1 1", "2", "0:1.. 1:1.. 2:1.."},
		{moore4, "1 1 1 1 1 1 1 1 1", "3 5 7", "0:1.."},
		{moore5, "0 0 0 0 0 0 0 0 0 0 0", "5", "0:0.. 1:0.. 2:0.."},
		{moore5, "0 0 0 0 0 0 0 0 0 0 0", "2 3 7", "0:0.."},
		{klein, "2 2 2 2 2 2 2 2", "2", "0:2.. 1:2.. 1:2.. 2:2.."},
		{klein, "2 2 2 2 2 2 2 2", "3 5 7", "0:2.. 1:2.."},
		{torus, "0 0 0 0 0 0 0", "2 3 5 7", "0:0.. 1:0.. 1:0.. 2:0.."},
		{double, "0 0 0 0 0 0 0 0", "2", "0:0.. 2:0.. 3:0.."},
		{double, "0 0 0 0 0 0 5 6", "2", "0:0.. 1:0..5 2:0..5 2:6.. 3:6.."},
		{double, "0 0 0 0 0 0 5 6", "3 5 7", "0:0.."},
	} {
		for _, p := range numbers(x.primes) {
			got, e := bars.Bars(lists(x.facets), numbers(x.shades), p)
			if written(got) != x.want || e != api.OK {
				t.Errorf("Bars of %s with %s modulo %d: %s, %d; not %s", x.facets, x.shades, p, written(got), e, x.want)
			}
		}
	}
}

// P10.1: bars by the definition: from the ranks from each shade to each other one.
func TestBarsByRanks(t *testing.T) {
	r := newRand(12)
	for range 250 {
		c := mixed(r)
		shades := shaded(r, c)
		for _, p := range []int{2, 3, 5, 7} {
			got, e := bars.Bars(c, shades, p)
			if want := byRanks(c, shades, p); written(sorted(got)) != written(sorted(want)) || e != api.OK {
				t.Fatalf("Bars of %s with %v modulo %d: %s, not %s", text(c), shades, p, written(got), written(want))
			}
			if !inOrder(got) {
				t.Fatalf("Bars of %s with %v modulo %d: %s", text(c), shades, p, written(got))
			}
		}
	}
}

// P10.1: of bars with the same Birth, those that are not open come first, by their Death.
func TestBarsInOrder(t *testing.T) {
	c, shades := lists("07 17 28 38 49 59 6"), numbers("1 1 1 1 1 1 1 9 5 7")
	if got := must(bars.Bars(c, shades, 2)); written(got) != "0:1..5 0:1..7 0:1..9 0:1.. 0:1.. 0:1.. 0:1.." {
		t.Errorf("Bars of %s: %s", text(c), written(got))
	}
	c, shades = lists("013 023 123 457 467 567 89 8a 9a b"), numbers("3 3 3 5 3 3 3 4 3 3 3 2")
	if got := must(bars.Bars(c, shades, 2)); written(got) != "0:2.. 0:3.. 0:3.. 0:3.. 1:3..4 1:3..5 1:3.." {
		t.Errorf("Bars of %s: %s", text(c), written(got))
	}
}

// P10.1: the rank, for all dimensions and all levels at shades, between them, before and behind them.
func TestRank(t *testing.T) {
	r := newRand(13)
	for range 60 {
		c := mixed(r)
		shades := shaded(r, c)
		levels := must(bars.Levels(c, shades))
		p := []int{2, 3, 5, 7}[r.Intn(4)]
		for range 60 {
			s, u := levels[r.Intn(len(levels))]+r.Intn(3)-1, levels[r.Intn(len(levels))]+r.Intn(3)-1
			s, u = min(s, u), max(s, u)
			k := r.Intn(5)
			if got, want := must(bars.Rank(c, shades, p, k, s, u)), rank(c, shades, p, k, s, u); got != want {
				t.Fatalf("Rank of %s with %v modulo %d, dimension %d, %d to %d: %d, not %d", text(c), shades, p, k, s, u, got, want)
			}
		}
	}
}

// P10.1: ranks by hand, and levels far away from all shades.
func TestRankByHand(t *testing.T) {
	const far = 1 << 62
	for _, x := range []struct {
		facets, shades   string
		p, k, s, t, want int
	}{
		{"01 12 23 03", "0 1 2 3", 2, 0, 0, 3, 1},
		{"01 12 23 03", "0 1 2 3", 2, 1, 3, 3, 1},
		{"01 12 23 03", "0 1 2 3", 2, 1, 2, 3, 0},
		{"01 12 23 03", "0 1 2 3", 2, 1, 3, far, 1},
		{"01 12 23 03", "0 1 2 3", 7, 0, -1, 3, 0},
		{"01 12 23 03", "0 1 2 3", 7, 0, -far, far, 0},
		{"01 12 23 03", "0 1 2 3", 7, 0, far, far, 1},
		{"01 12", "0 5 1", 2, 0, 0, 0, 1},
		{"01 12", "0 5 1", 2, 0, 1, 1, 2},
		{"01 12", "0 5 1", 2, 0, 1, 4, 2},
		{"01 12", "0 5 1", 2, 0, 1, 5, 1},
		{"01 12", "0 5 1", 2, 0, 0, 4, 1},
		{"01 12", "0 5 1", 2, 0, 4, 4, 2},
		{"01 12", "0 5 1", 2, 0, 5, 5, 1},
		{plane, "0 1 2 3 4 5", 2, 1, 3, 5, 1},
		{plane, "0 1 2 3 4 5", 3, 1, 3, 5, 0},
		{plane, "0 1 2 3 4 5", 3, 1, 3, 4, 1},
		{plane, "0 1 2 3 4 5", 2, 2, 5, 5, 1},
		{plane, "0 1 2 3 4 5", 5, 2, 5, 5, 0},
		{plane, "0 1 2 3 4 5", 5, 4, 5, 5, 0},
		{solids, "0 1 2 3 4", 5, 3, 4, 4, 1},
		{solids, "0 1 2 3 4", 5, 3, 3, 4, 0},
		{solids, "0 1 2 3 4", 5, 4, 4, 4, 0},
	} {
		got, e := bars.Rank(lists(x.facets), numbers(x.shades), x.p, x.k, x.s, x.t)
		if got != x.want || e != api.OK {
			t.Errorf("Rank of %s with %s, %d, %d, %d, %d: %d, %d; not %d", x.facets, x.shades, x.p, x.k, x.s, x.t, got, e, x.want)
		}
	}
}

// P10.1: the rank by the definition's words: all chains of the first level are looked at, and how many of them are boundaries in the second one.
func TestRankByAllChains(t *testing.T) {
	r := newRand(14)
	most := 0
	for range 600 {
		c := grown(r, nil, 1+r.Intn(5), 2+r.Intn(4), 1, 3)
		shades := make([]int, len(vertices(c)))
		for v := range shades {
			shades[v] = r.Intn(3)
		}
		k, p, s := r.Intn(3), []int{2, 3}[r.Intn(2)], r.Intn(3)
		u := s + r.Intn(3-s)
		if len(faces(c, shades, k, s)) > 7 || len(faces(c, shades, k+1, u)) > 7 {
			continue // too many chains
		}
		cycles, bounding := countChains(c, shades, p, k, s, u)
		got := must(bars.Rank(c, shades, p, k, s, u))
		want := 0
		for cycles > bounding {
			bounding *= p
			want++
		}
		if got != want {
			t.Fatalf("Rank of %s with %v modulo %d, dimension %d, %d to %d: %d, not %d", text(c), shades, p, k, s, u, got, want)
		}
		most = max(most, got)
	}
	if most < 2 {
		t.Errorf("no rank is greater than %d", most)
	}
}

// countChains counts the cycles of the level s, and those of them that are boundaries in the level u.
func countChains(c [][]int, shades []int, p, k, s, u int) (cycles, bounding int) {
	inner, outer, over := faces(c, shades, k, s), faces(c, shades, k, u), faces(c, shades, k+1, u)
	sums := map[string]bool{}
	down := boundaries(over, outer)
	allChains(len(over), p, func(chain []int) {
		sums[combined(chain, down, len(outer), p)] = true
	})
	under := boundaries(inner, faces(c, shades, k-1, s))
	wide := make([][]int, len(inner))
	for i, f := range inner {
		wide[i] = make([]int, len(outer))
		wide[i][slices.IndexFunc(outer, func(g []int) bool { return slices.Equal(f, g) })] = 1
	}
	nothing := combined(nil, nil, len(faces(c, shades, k-1, s)), p)
	allChains(len(inner), p, func(chain []int) {
		if combined(chain, under, len(faces(c, shades, k-1, s)), p) == nothing {
			cycles++
			if sums[combined(chain, wide, len(outer), p)] {
				bounding++
			}
		}
	})
	return cycles, bounding
}

// allChains calls f with all chains of so many faces.
func allChains(n, p int, f func(chain []int)) {
	chain := make([]int, n)
	var extend func(i int)
	extend = func(i int) {
		if i == n {
			f(chain)
			return
		}
		for x := range p {
			chain[i] = x
			extend(i + 1)
		}
	}
	extend(0)
}

// combined is the sum of rows, each times its number, as a string.
func combined(chain []int, rows [][]int, width, p int) string {
	out := make([]byte, width)
	for j := range out {
		sum := 0
		for i, x := range chain {
			sum += x * rows[i][j]
		}
		out[j] = byte('0' + (sum%p+p)%p)
	}
	return string(out)
}

// P10.1: numbers that are no vertices, the order of facets, and facets that are contained in others change nothing.
func TestBarsOfTheSameFaces(t *testing.T) {
	r := newRand(15)
	for range 200 {
		c := mixed(r)
		shades := shaded(r, c)
		want := written(must(bars.Bars(c, shades, 2)))
		other := slices.Clone(c)
		r.Shuffle(len(other), func(i, j int) { other[i], other[j] = other[j], other[i] })
		if part := other[0][:1]; len(other) < 20 && !hasList(other, part) {
			other = append(other, part)
		}
		for v := range shades {
			if !slices.ContainsFunc(c, func(facet []int) bool { return slices.Contains(facet, v) }) {
				shades[v] = r.Intn(2*million+1) - million
			}
		}
		if got := written(must(bars.Bars(other, shades, 2))); got != want {
			t.Fatalf("Bars of %s: %s, but of %s: %s", text(c), want, text(other), got)
		}
	}
}

// P10.1: as many faces as there may be, over all vertices.
func TestManyFaces(t *testing.T) {
	r := newRand(16)
	for range 20 {
		c := grown(r, nil, 20, 16, 4, 4)
		shades := shaded(r, c)
		got := must(bars.Bars(c, shades, 7))
		if want := byRanks(c, shades, 7); written(sorted(got)) != written(sorted(want)) {
			t.Fatalf("Bars of %s with %v: %s, not %s", text(c), shades, written(got), written(want))
		}
	}
}
