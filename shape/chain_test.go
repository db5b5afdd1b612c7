package shape_test

import (
	"math/rand"
	"slices"
	"strconv"
	"strings"
	"testing"

	"rabbet/api"
	"rabbet/frac"
	"rabbet/shape"
)

// bounds checks Bounds, Deny and Denies of a chain by the definitions, and returns whether it is a boundary.
func bounds(t *testing.T, c [][]int, k int, chain []frac.Int) bool {
	t.Helper()
	name := text(c) + ", " + join(chain)
	over, is, e := shape.Bounds(c, k, chain)
	f, m, denied, d := shape.Deny(c, k, chain)
	if e != api.OK || d != api.OK || is == denied {
		t.Fatalf("Bounds of %s: %t, %d; Deny: %t, %d", name, is, e, denied, d)
	}
	if is {
		zero(t, "Deny of "+name, f)
		if len(over) != len(faces(c, k+1)) || digits(over...) > 1000 || boundary(c, k+1, over) != join(chain) {
			t.Fatalf("Bounds of %s: %s", name, join(over))
		}
		if m.Sign() != 0 || shape.Denies(c, k, chain, f, m) || shape.Denies(c, k, chain, make([]frac.Int, len(chain)), m) {
			t.Fatalf("Deny of %s: %s, %s", name, join(f), m)
		}
		return true
	}
	zero(t, "Bounds of "+name, over)
	if !denies(c, k, chain, f, m) || !shape.Denies(c, k, chain, f, m) {
		t.Fatalf("Deny of %s: %s, %s", name, join(f), m)
	}
	return false
}

// randomChain is a chain of random integers of some digits.
func randomChain(r *rand.Rand, length int) []frac.Int {
	out := make([]frac.Int, length)
	most := 1 + r.Intn(5)
	for i := range out {
		switch r.Intn(6) {
		case 0, 1:
			out[i] = frac.Whole(int64(r.Intn(2*most+1) - most))
		case 2:
			out[i] = frac.Whole(r.Int63() - r.Int63())
		}
	}
	return out
}

// multiple is a list, each integer of it times n.
func multiple(l []frac.Int, n frac.Int) []frac.Int {
	var out []frac.Int
	for _, x := range l {
		out = append(out, must(x.Mul(n)))
	}
	return out
}

// sum is two lists of the same length, added up.
func sum(a, b []frac.Int) []frac.Int {
	var out []frac.Int
	for i, x := range a {
		out = append(out, must(x.Add(b[i])))
	}
	return out
}

// P9.2: example 1 of the chapter.
func TestChainExample(t *testing.T) {
	c := lists("01 02 12")
	chain := small(1, -1, 1)
	if bounds(t, c, 1, chain) || !shape.Denies(c, 1, chain, small(1, 0, 0), frac.Whole(0)) {
		t.Errorf("three edges")
	}
	if !bounds(t, lists("012"), 1, chain) {
		t.Errorf("a triangle")
	}
}

// P9.2: boundaries by hand.
func TestBoundaryByHand(t *testing.T) {
	for _, x := range []struct {
		facets      string
		k           int
		chain, want string
	}{
		{"0", 0, "5", ""},
		{"0 2 4", 0, "5 6 7", ""},
		{"0", 1, "", "0"},
		{"0 1", 1, "", "0 0"},
		{"0", 2, "", ""},
		{"0", 4, "", ""},
		{"01", 1, "1", "-1 1"},
		{"3a", 1, "-7", "7 -7"},
		{"01 12 02", 1, "1 -1 1", "0 0 0"},
		{"01 12 02", 1, "1 1 1", "-2 0 2"},
		{"012", 2, "1", "1 -1 1"},
		{"012", 2, "999999999999999999999999999999", "999999999999999999999999999999 -999999999999999999999999999999 999999999999999999999999999999"},
		{"123 012", 2, "1 0", "1 -1 1 0 0"},
		{"123 012", 2, "1 1", "1 -1 2 -1 1"},
		{"0123", 3, "1", "-1 1 -1 1"},
		{"0123", 3, "-5", "5 -5 5 -5"},
		{"0123", 2, "-1 1 -1 1", "0 0 0 0 0 0"},
		{"0123", 4, "", "0"},
		{"0123 0124 4", 4, "", "0 0"},
		{"012", 3, "", "0"},
		{"012", 4, "", ""},
	} {
		l, e := shape.Boundary(lists(x.facets), x.k, numbers(x.chain))
		if join(l) != x.want || e != api.OK {
			t.Errorf("Boundary of %s, %d, %s: %s, %d", x.facets, x.k, x.chain, join(l), e)
		}
	}
}

// P9.2, P9.5: boundaries of many chains, and theirs.
func TestBoundary(t *testing.T) {
	r := newRand(21)
	for range 200 {
		c := mixed(r)
		for k := range 5 {
			chain := randomChain(r, len(faces(c, k)))
			l, e := shape.Boundary(c, k, chain)
			if join(l) != boundary(c, k, chain) || e != api.OK {
				t.Fatalf("Boundary of %s, %d, %s: %s, %d", text(c), k, join(chain), join(l), e)
			}
			if k == 0 {
				continue
			}
			if l, e := shape.Boundary(c, k-1, l); !isZero(join(l)) || e != api.OK {
				t.Fatalf("Boundary of the boundary of %s, %d, %s: %s, %d", text(c), k, join(chain), join(l), e)
			}
		}
	}
}

// P9.2, P9.5: chains of many complexes have a chain over them, or a denial: random ones, boundaries, and boundaries that are changed at one place.
func TestBoundsOrDeny(t *testing.T) {
	r := newRand(22)
	for range 200 {
		c := mixed(r)
		k := r.Intn(5)
		n := len(faces(c, k))
		chain := randomChain(r, n)
		is := bounds(t, c, k, chain)
		if is && k > 0 && !isZero(boundary(c, k, chain)) {
			t.Fatalf("%s of %s is no cycle, and a boundary", join(chain), text(c))
		}
		if !bounds(t, c, k, make([]frac.Int, n)) {
			t.Fatalf("0 of %s is no boundary", text(c))
		}
		edge := make([]frac.Int, n)
		if k < 4 {
			edge = must(shape.Boundary(c, k+1, randomChain(r, len(faces(c, k+1)))))
		}
		if !bounds(t, c, k, edge) {
			t.Fatalf("%s of %s is no boundary", join(edge), text(c))
		}
		if n > 0 {
			at := r.Intn(n)
			edge[at] = must(edge[at].Add(frac.Whole(1)))
			if bounds(t, c, k, edge) && k == 0 {
				t.Fatalf("%s of %s is a boundary", join(edge), text(c))
			}
		}
	}
}

// P9.2: all chains of small integers of some complexes.
func TestAllSmallChains(t *testing.T) {
	for _, x := range []struct {
		facets string
		k      int
	}{
		{"0", 0}, {"01", 0}, {"01 2", 0}, {"01 12", 0}, {"012 3", 0},
		{"01", 1}, {"01 02 12", 1}, {"012", 1}, {"012 13 23", 1},
		{"012", 2}, {"012 013 023 123", 2}, {"0123", 2}, {"0123", 3},
	} {
		c := lists(x.facets)
		n := len(faces(c, x.k))
		most := 2
		if n > 4 {
			most = 1
		}
		boundaryOnes := map[string]bool{}
		for _, over := range smallLists(len(faces(c, x.k+1)), 6) {
			boundaryOnes[boundary(c, x.k+1, small(over...))] = true
		}
		if len(faces(c, x.k+1)) == 0 {
			boundaryOnes[join(make([]frac.Int, n))] = true
		}
		for _, list := range smallLists(n, most) {
			if chain := small(list...); bounds(t, c, x.k, chain) != boundaryOnes[join(chain)] {
				t.Errorf("Bounds of %s: %s", x.facets, join(chain))
			}
		}
	}
}

// smallLists is all lists of a length, of integers up to most in absolute value.
func smallLists(length, most int) [][]int {
	out := [][]int{nil}
	for range length {
		var longer [][]int
		for _, list := range out {
			for n := -most; n <= most; n++ {
				longer = append(longer, append(slices.Clone(list), n))
			}
		}
		out = longer
	}
	return out
}

// P9.2: where the cycles of dimension 1 are a group of order n but for boundaries, n times each is a boundary, and for some cycle no lesser multiple is.
func TestBoundsWithTorsion(t *testing.T) {
	r := newRand(23)
	for _, x := range []struct {
		facets string
		n      int
	}{{plane, 2}, {sevenPlane, 2}, {moore3, 3}, {moore3Few, 3}, {moore4, 4}, {moore5, 5}} {
		for range 2 {
			c := relabelled(r, lists(x.facets))
			most := 0
			for range 8 {
				most = max(most, order(t, c, 1, closedWalk(r, c), x.n))
			}
			if most != x.n {
				t.Errorf("%s: a cycle is a boundary %d times", text(c), most)
			}
		}
	}
}

// order is the least number of times for which a cycle is a boundary: a divisor of n.
func order(t *testing.T, c [][]int, k int, cycle []frac.Int, n int) int {
	t.Helper()
	least := 1
	for least <= n && !bounds(t, c, k, multiple(cycle, frac.Whole(int64(least)))) {
		least++
	}
	if n%least != 0 {
		t.Fatalf("%s of %s is not a boundary %d times", join(cycle), text(c), n)
	}
	for times := 1; times <= 2*n; times++ {
		if is := bounds(t, c, k, multiple(cycle, frac.Whole(int64(-times)))); is != (times%least == 0) {
			t.Fatalf("%s of %s, %d times: %t", join(cycle), text(c), times, is)
		}
	}
	return least
}

// closedWalk is the chain of dimension 1 of a random way over edges that comes back to its start.
func closedWalk(r *rand.Rand, c [][]int) []frac.Int {
	edges := faces(c, 1)
	out := make([]frac.Int, len(edges))
	start := edges[r.Intn(len(edges))][0]
	for at, steps := start, 0; steps < 30 || at != start; {
		i := r.Intn(len(edges))
		switch at {
		case edges[i][0]:
			out[i], at = must(out[i].Add(frac.Whole(1))), edges[i][1]
		case edges[i][1]:
			out[i], at = must(out[i].Sub(frac.Whole(1))), edges[i][0]
		default:
			continue
		}
		steps++
	}
	return out
}

// P9.2: the same in dimension 2, between the cycles of the projective plane and the two new vertices of its double.
func TestBoundsInDouble(t *testing.T) {
	r := newRand(24)
	c := lists(plane)
	double := must(shape.Double(c))
	most := 0
	for range 20 {
		cycle := closedWalk(r, c)
		over := make([]frac.Int, len(faces(double, 2)))
		for i, edge := range faces(c, 1) {
			for j, f := range faces(double, 2) {
				if slices.Equal(f, append(slices.Clone(edge), 6)) {
					over[j] = cycle[i]
				}
				if slices.Equal(f, append(slices.Clone(edge), 7)) {
					over[j] = cycle[i].Neg()
				}
			}
		}
		if !isZero(boundary(double, 2, over)) {
			t.Fatalf("%s is no cycle", join(over))
		}
		most = max(most, order(t, double, 2, over, 2))
	}
	if most != 2 {
		t.Errorf("all cycles are boundaries")
	}
}

// P9.2: integers with as many digits as they may have.
func TestLongChains(t *testing.T) {
	r := newRand(25)
	for _, x := range known() {
		c := relabelled(r, lists(x.facets))
		for k := range 4 {
			chain := make([]frac.Int, len(faces(c, k)))
			for i := range chain {
				chain[i] = number(strconv.Itoa(1+r.Intn(9)) + randomDigits(r, 29))
				if r.Intn(2) == 0 {
					chain[i] = chain[i].Neg()
				}
			}
			bounds(t, c, k, chain)
		}
		for k := range 4 {
			over := make([]frac.Int, len(faces(c, k+1)))
			for i := range over {
				over[i] = number("1" + randomDigits(r, 28))
			}
			chain := must(shape.Boundary(c, k+1, over))
			if digits(chain...) > 30 {
				t.Fatalf("%d digits", digits(chain...))
			}
			if !bounds(t, c, k, chain) {
				t.Errorf("%s: %s is no boundary", x.name, join(chain))
			}
		}
	}
}

func randomDigits(r *rand.Rand, n int) string {
	var out strings.Builder
	for range n {
		out.WriteByte(byte('0' + r.Intn(10)))
	}
	return out.String()
}

// P9.2: Denies by hand.
func TestDeniesByHand(t *testing.T) {
	for _, x := range []struct {
		facets      string
		k           int
		chain, f, m string
		want        bool
	}{
		{"01 02 12", 1, "1 -1 1", "1 0 0", "0", true},
		{"01 02 12", 1, "1 -1 1", "0 -7 0", "0", true},
		{"01 02 12", 1, "1 -1 1", "1 1 0", "0", false}, // 0 in all
		{"01 02 12", 1, "1 -1 1", "1 1 0", "2", false},
		{"01 02 12", 1, "1 -1 1", "1 0 0", "2", true},
		{"01 02 12", 1, "1 -1 1", "1 0 0", "1", false},
		{"01 02 12", 1, "1 -1 1", "1 0 0", "-2", false},
		{"01 02 12", 1, "1 -1 1", "1 0 0", "-1", false},
		{"01 02 12", 1, "1 -1 1", "1 0", "0", false},
		{"01 02 12", 1, "1 -1 1", "1 0 0 0", "0", false},
		{"01 02 12", 1, "1 -1 1", "", "0", false},
		{"01 02 12", 1, "0 0 0", "1 0 0", "0", false},
		{"012", 1, "1 -1 1", "1 0 0", "0", false}, // not 0 of the triangle
		{"012", 1, "1 1 1", "1 1 0", "0", true},   // no cycle
		{"012", 1, "1 1 1", "1 1 0", "2", false},  // 2
		{"012", 1, "1 1 1", "1 1 0", "3", true},
		{"012", 1, "1 1 1", "1 4 0", "3", true}, // -3 of the triangle
		{"012", 1, "1 1 1", "1 4 0", "0", false},
		{"012", 1, "1 1 1", "1 4 0", "5", false}, // neither
		{"0 1", 0, "1 -1", "1 0", "0", true},
		{"01", 0, "1 -1", "1 0", "0", false},
		{"01", 0, "1 1", "1 1", "0", true},
		{"01", 0, "1 -1", "1 1", "0", false},
		{"01", 0, "3 3", "1 1", "6", false},
		{"01", 0, "3 3", "1 1", "4", true},
		{"01", 0, "3 2", "5 1", "4", true},
		{"01", 0, "3 2", "5 1", "0", false},
		{"012", 2, "4", "1", "0", true},
		{"012", 2, "4", "1", "4", false},
		{"012", 2, "4", "1", "8", true},
		{"012", 3, "", "", "0", false},
		{"012", 4, "", "", "0", false},
		{"0", 1, "", "", "2", false},
		{"0", 0, "1", "1", "0", true},
		{"0", 0, "1", "0", "0", false},
		{"0", 0, "1", "2", "2", false},
	} {
		if shape.Denies(lists(x.facets), x.k, numbers(x.chain), numbers(x.f), number(x.m)) != x.want {
			t.Errorf("Denies of %s, %d, %s, %s, %s: %t", x.facets, x.k, x.chain, x.f, x.m, !x.want)
		}
	}
}

// P9.2: denials of at most 1000 digits.
func TestLongDenials(t *testing.T) {
	c, chain := lists("01 02 12"), small(1, -1, 1)
	ten := "1" + strings.Repeat("0", 999)
	for _, x := range []struct {
		f, m string
		want bool
	}{
		{ten + " 0 0", "0", true},
		{"0 -" + ten + " 0", "0", true},
		{"0 0 " + nines(1000), "0", true},
		{"-" + nines(1000) + " 0 0", ten, true},
		{"1 0 0", nines(1000), true},
		{nines(1000) + " 0 0", nines(1000), false},
		{ten + " 0 0", "2", false},
		{ten + "0 0 0", "0", false},
		{"1 0 -" + ten + "0", "0", false},
		{"1 " + nines(1001) + " 0", "0", false},
		{"1 0 0", ten + "0", false},
		{"1 0 0", nines(1001), false},
		{"1 0 0", nines(20000), false},
		{"1 0 0", "-" + ten, false},
	} {
		if shape.Denies(c, 1, chain, numbers(x.f), number(x.m)) != x.want {
			t.Errorf("Denies of %s, %s: %t", x.f, x.m, !x.want)
		}
	}
	f := numbers(nines(1000) + " 0 0")
	if !shape.Denies(c, 1, numbers(nines(30)+" 0 0"), f, frac.Whole(0)) || shape.Denies(c, 1, numbers("1"+strings.Repeat("0", 30)+" 0 0"), f, frac.Whole(0)) {
		t.Errorf("Denies of long chains")
	}
}

// P9.2: Denies by the definition, of all small lists, and of random ones.
func TestDenies(t *testing.T) {
	for _, x := range []struct {
		facets string
		k      int
	}{{"0", 0}, {"01 2", 0}, {"01 02 12", 1}, {"012", 1}, {"012", 2}} {
		c := lists(x.facets)
		n := len(faces(c, x.k))
		for _, chain := range smallLists(n, 1) {
			for _, f := range smallLists(n, 2) {
				for m := -3; m <= 4; m++ {
					got := shape.Denies(c, x.k, small(chain...), small(f...), frac.Whole(int64(m)))
					if got != denies(c, x.k, small(chain...), small(f...), frac.Whole(int64(m))) {
						t.Fatalf("Denies of %s, %v, %v, %d: %t", x.facets, chain, f, m, got)
					}
				}
			}
		}
	}
	r := newRand(26)
	found := 0
	for range 300 {
		c := mixed(r)
		k := r.Intn(4)
		n := len(faces(c, k))
		chain := randomChain(r, n)
		f, m, _, _ := shape.Deny(c, k, chain)
		for range 5 {
			g := slices.Clone(f)
			if len(g) > 0 && r.Intn(3) > 0 {
				at := r.Intn(n)
				g[at] = must(g[at].Add(frac.Whole(int64(r.Intn(5) - 2))))
			} else if len(g) == 0 {
				g = randomChain(r, n)
			}
			if r.Intn(3) > 0 {
				m = frac.Whole(int64(r.Intn(7) - 1))
			}
			want := denies(c, k, chain, g, m)
			if got := shape.Denies(c, k, chain, g, m); got != want {
				t.Fatalf("Denies of %s, %s, %s, %s: %t", text(c), join(chain), join(g), m, got)
			}
			if want {
				found++
			}
		}
	}
	if found < 100 {
		t.Errorf("%d denials", found)
	}
}

// P9.2, P9.5: a boundary has no denial: neither that of another chain, nor random numbers.
func TestBoundariesAreNotDenied(t *testing.T) {
	r := newRand(27)
	for range 100 {
		c := mixed(r)
		k := r.Intn(3)
		n := len(faces(c, k))
		chain := must(shape.Boundary(c, k+1, randomChain(r, len(faces(c, k+1)))))
		for range 20 {
			f, m, _, _ := shape.Deny(c, k, randomChain(r, n))
			if len(f) > 0 && shape.Denies(c, k, chain, f, m) || shape.Denies(c, k, chain, randomChain(r, n), frac.Whole(int64(r.Intn(6)))) {
				t.Fatalf("%s of %s is denied", join(chain), text(c))
			}
		}
	}
}

// cycled checks Cycle by the definition.
func cycled(t *testing.T, c [][]int, k int) {
	t.Helper()
	l, ok, e := shape.Cycle(c, k)
	if e != api.OK || ok != (betti(t, c, k) > 0) {
		t.Fatalf("Cycle of %s, %d: %t, %d", text(c), k, ok, e)
	}
	if !ok {
		zero(t, "Cycle", l)
		return
	}
	if len(l) != len(faces(c, k)) || digits(l...) > 30 || !isZero(boundary(c, k, l)) {
		t.Fatalf("Cycle of %s, %d: %s", text(c), k, join(l))
	}
	// With the cycle as another column, there are more independent ones (modulo a prime, and all the more without one).
	const large = 1<<31 - 1
	rows := boundaries(c, k+1)
	wider := make([][]int64, len(rows))
	for i, row := range rows {
		n, _ := l[i].Int64()
		wider[i] = append(slices.Clone(row), n)
	}
	if rankModulo(wider, large) != rankModulo(rows, large)+1 {
		t.Fatalf("Cycle of %s, %d: a multiple of %s is a boundary", text(c), k, join(l))
	}
	for _, n := range []int64{1, -1, 2, 3, 60} {
		if bounds(t, c, k, multiple(l, frac.Whole(n))) {
			t.Fatalf("Cycle of %s, %d: %s is a boundary %d times", text(c), k, join(l), n)
		}
	}
}

// P9.2
func TestCycle(t *testing.T) {
	r := newRand(28)
	for _, x := range known() {
		for k := range 5 {
			cycled(t, lists(x.facets), k)
			cycled(t, relabelled(r, lists(x.facets)), k)
		}
	}
	for range 150 {
		cycled(t, mixed(r), r.Intn(4))
	}
}

// P9.2, P9.5: a cycle, times a number and with a boundary added, is a cycle that is no boundary, and has a denial by which the modulus is 0, as no multiple is a boundary.
func TestCyclesAreDenied(t *testing.T) {
	r := newRand(29)
	for range 150 {
		c := mixed(r)
		k := r.Intn(3)
		l, ok, _ := shape.Cycle(c, k)
		if !ok {
			continue
		}
		edge := must(shape.Boundary(c, k+1, randomChain(r, len(faces(c, k+1)))))
		chain := sum(multiple(l, frac.Whole(int64(1+r.Intn(1000)))), edge)
		if bounds(t, c, k, chain) {
			t.Fatalf("%s of %s is a boundary", join(chain), text(c))
		}
	}
}
