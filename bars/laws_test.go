package bars_test

import (
	"slices"
	"testing"

	"rabbet/api"
	"rabbet/bars"
	"rabbet/shape"
)

// level is the facets of a level: what is left of each facet there. It may be none.
func level(c [][]int, shades []int, s int) [][]int {
	var out [][]int
	for _, facet := range c {
		var list []int
		for _, v := range facet {
			if shades[v] <= s {
				list = append(list, v)
			}
		}
		if len(list) > 0 && !hasList(out, list) {
			out = append(out, list)
		}
	}
	return out
}

// holes is how many independent holes of dimension k there are modulo p, by chapter 9: Betti, and how many of the numbers of Torsion of that dimension and of the one below p divides.
func holes(t *testing.T, c [][]int, k, p int) int {
	t.Helper()
	count := 0
	for _, dim := range []int{k, k - 1} {
		if dim < 0 {
			continue
		}
		betti, torsion, e := shape.Homology(c, dim)
		if e != api.OK {
			t.Fatalf("Homology of %s, %d: %d", text(c), dim, e)
		}
		if dim == k {
			count += betti
		}
		for _, n := range torsion {
			if m, ok := n.Int64(); !ok || m%int64(p) == 0 {
				count++
			}
		}
	}
	return count
}

// P10.3: at each level there are as many bars as holes.
func TestBarsAreHoles(t *testing.T) {
	r := newRand(31)
	torsion := 0
	for range 400 {
		c := mixed(r)
		shades := shaded(r, c)
		levels := must(bars.Levels(c, shades))
		for range 4 {
			p, k := []int{2, 3, 5, 7}[r.Intn(4)], r.Intn(5)
			s := levels[r.Intn(len(levels))] + r.Intn(3) - 1
			if r.Intn(2) == 0 {
				s = slices.Max(levels)
			}
			want := 0
			if l := level(c, shades, s); len(l) > 0 {
				want = holes(t, l, k, p)
				if betti, _, _ := shape.Homology(l, k); betti < want {
					torsion++
				}
			}
			count := 0
			for _, b := range must(bars.Bars(c, shades, p)) {
				if b.Dim == k && b.Birth <= s && (b.Open || b.Death > s) {
					count++
				}
			}
			if rank := must(bars.Rank(c, shades, p, k, s, s)); count != want || rank != want {
				t.Fatalf("%s with %v modulo %d, dimension %d: %d bars at %d, rank %d, but %d holes", text(c), shades, p, k, count, s, rank, want)
			}
		}
	}
	if torsion < 20 {
		t.Errorf("only %d times Torsion counts", torsion)
	}
}

// P10.3: complexes with Torsion, at the level that has all of them.
func TestTorsionAtTheLastLevel(t *testing.T) {
	for _, s := range []string{plane, moore3, moore4, moore5, klein, torus, solids, double} {
		c := lists(s)
		shades := vertices(c)
		for _, p := range []int{2, 3, 5, 7} {
			for k := range 5 {
				want := holes(t, c, k, p)
				open := 0
				for _, b := range of(must(bars.Bars(c, shades, p)), k) {
					if b.Open {
						open++
					}
				}
				if last := len(shades) - 1; open != want || must(bars.Rank(c, shades, p, k, last, last)) != want {
					t.Errorf("%s modulo %d, dimension %d: %d bars are open, but %d holes", s, p, k, open, want)
				}
			}
		}
	}
}

// P10.3: other shades in the same order turn Births and Deaths in the same way.
func TestTurnedShades(t *testing.T) {
	r := newRand(32)
	for range 400 {
		c := mixed(r)
		shades := shaded(r, c)
		steps := slices.Compact(sortedBy(shades))
		to := map[int]int{}
		at := -million
		for _, s := range steps {
			at += r.Intn([]int{2, 100, 100000}[r.Intn(3)])
			to[s] = at
			at++
		}
		var turned []int
		for _, s := range shades {
			turned = append(turned, to[s])
		}
		p := []int{2, 3, 5, 7}[r.Intn(4)]
		var want []bars.Bar
		for _, b := range must(bars.Bars(c, shades, p)) {
			b.Birth = to[b.Birth]
			if !b.Open {
				b.Death = to[b.Death]
			}
			want = append(want, b)
		}
		if got := must(bars.Bars(c, turned, p)); !slices.Equal(got, want) {
			t.Fatalf("Bars of %s with %v: %s, not %s", text(c), turned, written(got), written(want))
		}
	}
}

// P10.1, P10.3: bars begin and end at levels, are right by CheckBars, and those that are open add up to the Euler number.
func TestBarsAddUp(t *testing.T) {
	r := newRand(33)
	for range 300 {
		c := mixed(r)
		shades := shaded(r, c)
		levels := must(bars.Levels(c, shades))
		for _, p := range []int{2, 3, 5, 7} {
			list := must(bars.Bars(c, shades, p))
			sum := 0
			for _, b := range list {
				if !slices.Contains(levels, b.Birth) || !b.Open && !slices.Contains(levels, b.Death) {
					t.Fatalf("Bars of %s with %v: %s", text(c), shades, written(list))
				}
				if b.Open {
					sum += []int{1, -1}[b.Dim%2]
				}
			}
			if e := bars.CheckBars(list); e != api.OK || sum != must(shape.Euler(c)) {
				t.Fatalf("Bars of %s with %v: %s, %d", text(c), shades, written(list), e)
			}
		}
	}
}

// P10.1: the rank falls with later ends, and rises with later starts.
func TestRanksFall(t *testing.T) {
	r := newRand(34)
	for range 100 {
		c := mixed(r)
		shades := shaded(r, c)
		levels := must(bars.Levels(c, shades))
		p, k := []int{2, 3, 5, 7}[r.Intn(4)], r.Intn(4)
		for i, s := range levels {
			for j := i; j < len(levels); j++ {
				n := must(bars.Rank(c, shades, p, k, s, levels[j]))
				if j+1 < len(levels) && must(bars.Rank(c, shades, p, k, s, levels[j+1])) > n {
					t.Fatalf("Rank of %s with %v from %d to %d: %d", text(c), shades, s, levels[j], n)
				}
				if i < j && must(bars.Rank(c, shades, p, k, levels[i+1], levels[j])) < n {
					t.Fatalf("Rank of %s with %v from %d to %d: %d", text(c), shades, s, levels[j], n)
				}
			}
		}
	}
}

// P10.4: a pairing or a crowd, never both, for the bars of complexes and for lists of any bars.
func TestEitherOr(t *testing.T) {
	r := newRand(35)
	seen := map[bool]int{}
	for n := range 1500 {
		var a, b []bars.Bar
		if n%2 == 0 {
			c := mixed(r)
			shades := shaded(r, c)
			a = must(bars.Bars(c, shades, 2))
			b = must(bars.Bars(c, moved(r, shades, 1+r.Intn(4)), 2))
		} else {
			a = some(r, r.Intn(30), 1+r.Intn(20), 1+r.Intn(10), 10*r.Intn(3))
			b = near(r, a, 1+r.Intn(3))
			b = append(b, some(r, r.Intn(3), 20, 3, 10)...)
		}
		h := r.Intn(10)
		want := pairedAll(a, b, h)
		either(t, a, b, h, want)
		either(t, b, a, h, want)
		seen[want]++
	}
	if seen[true] < 300 || seen[false] < 300 {
		t.Errorf("%d pairings, %d crowds", seen[true], seen[false])
	}
}

// moved is shades that are different by at most so much each.
func moved(r interface{ Intn(n int) int }, shades []int, by int) []int {
	var out []int
	for _, s := range shades {
		out = append(out, max(-million, min(million, s+r.Intn(2*by+1)-by)))
	}
	return out
}

// P10.5: bars are not farther apart than shades are.
func TestNearStaysNear(t *testing.T) {
	r := newRand(36)
	sharp := 0
	for n := range 500 {
		c := mixed(r)
		first := shaded(r, c)
		second := moved(r, first, []int{1, 3, 100, 100000, million}[r.Intn(5)])
		if n%4 == 0 {
			second = shaded(r, c)
		}
		most := 0
		for _, facet := range c {
			for _, v := range facet {
				most = max(most, abs(first[v]-second[v]))
			}
		}
		p := []int{2, 3, 5, 7}[r.Intn(4)]
		a, b := must(bars.Bars(c, first, p)), must(bars.Bars(c, second, p))
		for k := range 5 {
			h, ok, e := bars.Distance(of(a, k), of(b, k))
			if e != api.OK || !ok || h > 2*most {
				t.Fatalf("%s with %v and %v, dimension %d: %d, %t, %d", text(c), first, second, k, h, ok, e)
			}
			if h == 2*most && h > 0 {
				sharp++
			}
		}
	}
	if sharp < 20 {
		t.Errorf("only %d times the distance is as large as it may be", sharp)
	}
}

// P10.2: by the definition the distance is 0 of a list to itself, whatever its order is, the same both ways, and no way around is shorter.
func TestDistances(t *testing.T) {
	r := newRand(37)
	distance := func(a, b []bars.Bar) int {
		h, ok, e := bars.Distance(a, b)
		if !ok || e != api.OK {
			t.Fatalf("Distance of %s and %s: %t, %d", written(a), written(b), ok, e)
		}
		return h
	}
	for range 500 {
		a := some(r, r.Intn(15), 20, 10, 0)
		a = append(a, some(r, 3, 20, 1, 100)...)
		b := near(r, a, 1+r.Intn(5))
		c := append(some(r, r.Intn(15), 20, 10, 0), some(r, 3, 20, 1, 100)...)
		if h := distance(a, near(r, a, 0)); h != 0 {
			t.Fatalf("Distance of %s to itself: %d", written(a), h)
		}
		if h := distance(a, b); h != distance(b, a) || h > distance(a, c)+distance(c, b) {
			t.Fatalf("Distance of %s and %s: %d; by %s: %d, %d", written(a), written(b), h, written(c), distance(a, c), distance(c, b))
		}
	}
}
