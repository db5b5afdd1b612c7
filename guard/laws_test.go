package guard_test

import (
	"math/rand"
	"slices"
	"testing"

	"rabbet/api"
	"rabbet/frac"
	"rabbet/guard"
)

// divided is triangulations of a wall: all of a few corners, otherwise those of Divide for some places where the wall may begin.
func divided(t *testing.T, wall []point) [][][3]int {
	t.Helper()
	if len(wall) <= 7 {
		return triangulations(wall)
	}
	var out [][][3]int
	n := len(wall)
	for at := 0; at < n; at += 1 + n/3 {
		l, e := guard.Divide(slices.Concat(wall[at:], wall[:at]))
		if e != api.OK {
			t.Fatalf("Divide of %v from corner %d: %d", wall, at, e)
		}
		for i := range l {
			for k := range l[i] {
				l[i][k] = (l[i][k] + at) % n
			}
			slices.Sort(l[i][:])
		}
		slices.SortFunc(l, func(t, u [3]int) int { return slices.Compare(t[:], u[:]) })
		out = append(out, l)
	}
	return out
}

// lawful is walls for the consequences.
func lawful() [][]point {
	return slices.Concat(tinyWalls()[:200], someWalls(300), manyCorners())
}

// P7.5: a triangulation has its colours, and each colour's corners are guards.
func TestColoursGuard(t *testing.T) {
	for _, wall := range lawful() {
		for _, l := range divided(t, wall) {
			colours, e := guard.Colours(wall, l)
			if e != api.OK || len(colours) != len(wall) || colours[0] != 0 {
				t.Fatalf("Colours of %v, %v: %v, %d", wall, l, colours, e)
			}
			if at := slices.IndexFunc(colours, func(c int) bool { return c != 0 }); at < 0 || colours[at] != 1 {
				t.Fatalf("Colours of %v, %v: %v", wall, l, colours)
			}
			for _, tri := range l {
				a, b, c := colours[tri[0]], colours[tri[1]], colours[tri[2]]
				if a == b || b == c || a == c || min(a, b, c) != 0 || max(a, b, c) != 2 {
					t.Fatalf("Colours of %v, %v: %v", wall, l, colours)
				}
			}
			for colour := range 3 {
				var guards []int
				for i, c := range colours {
					if c == colour {
						guards = append(guards, i)
					}
				}
				if !guard.AreGuards(wall, guards, l) {
					t.Fatalf("AreGuards of %v, %v, %v: false", wall, guards, l)
				}
			}
		}
	}
}

// P7.5: no other colours are right: all lists of colours of few corners.
func TestColoursOnly(t *testing.T) {
	for i, wall := range fewCorners() {
		if i%10 > 0 || len(wall) > 7 {
			continue
		}
		for _, l := range triangulations(wall) {
			var right [][]int
			for code := range power(3, len(wall)) {
				colours := make([]int, len(wall))
				for i := range colours {
					colours[i] = code % 3
					code /= 3
				}
				if isColoured(colours, l) {
					right = append(right, colours)
				}
			}
			got, e := guard.Colours(wall, l)
			if len(right) != 1 || !slices.Equal(right[0], got) || e != api.OK {
				t.Fatalf("Colours of %v, %v: %v, %d, not %v", wall, l, got, e, right)
			}
		}
	}
}

func power(base, exponent int) int {
	out := 1
	for range exponent {
		out *= base
	}
	return out
}

// isColoured is the definition.
func isColoured(colours []int, l [][3]int) bool {
	for _, t := range l {
		if colours[t[0]] == colours[t[1]] || colours[t[1]] == colours[t[2]] || colours[t[0]] == colours[t[2]] {
			return false
		}
	}
	other := slices.IndexFunc(colours, func(c int) bool { return c != 0 })
	return colours[0] == 0 && colours[other] == 1
}

// P7.5: a guard sees all of each triangle that it is a corner of, so that guards see all points of the gallery.
func TestGuardsSee(t *testing.T) {
	r := rand.New(rand.NewSource(6))
	for _, wall := range slices.Concat(someWalls(300), manyCorners()) {
		wall = scaledAll(wall, 12)
		guards, l, _ := guard.Guards(wall)
		for _, tri := range l {
			c := cornersOf(wall, tri)
			for range 3 {
				a, b := r.Int63n(13), r.Int63n(13)
				if a+b > 12 {
					a, b = 12-a, 12-b
				}
				x := point{(a*c[0][0] + b*c[1][0] + (12-a-b)*c[2][0]) / 12, (a*c[0][1] + b*c[1][1] + (12-a-b)*c[2][1]) / 12}
				for _, g := range tri {
					if sees, e := guard.Sees(wall, wall[g], x); !sees || e != api.OK {
						t.Fatalf("Sees of corner %d and %v in %v: %t, %d", g, x, wall, sees, e)
					}
				}
				if !slices.ContainsFunc(guards, func(g int) bool { return must(guard.Sees(wall, wall[g], x)) }) {
					t.Fatalf("no guard sees %v in %v", x, wall)
				}
			}
		}
	}
}

// P7.6: what sees all corners is in the kernel, and all of the kernel sees all corners, and all else.
func TestKernelSees(t *testing.T) {
	r := rand.New(rand.NewSource(7))
	for _, wall := range slices.Concat(tinyWalls()[:250], someWalls(300)) {
		wall = scaledAll(wall, 2)
		var in []point
		for _, p := range grid(wall) {
			if must(guard.Where(wall, p)) != guard.Outside {
				in = append(in, p)
			} else if must(guard.InKernel(wall, frac.Of(p[0]), frac.Of(p[1]))) {
				t.Fatalf("the kernel of %v has %v", wall, p)
			}
		}
		for _, p := range in {
			all := true
			for _, q := range wall {
				all = all && must(guard.Sees(wall, p, q))
			}
			if got := must(guard.InKernel(wall, frac.Of(p[0]), frac.Of(p[1]))); got != all {
				t.Fatalf("InKernel of %v in %v: %t, it sees all corners: %t", p, wall, got, all)
			}
			if q := in[r.Intn(len(in))]; all && !must(guard.Sees(wall, p, q)) {
				t.Fatalf("%v of the kernel of %v does not see %v", p, wall, q)
			}
		}
	}
}

// P7.6: either the kernel has corners, which are in it, or at most three sides have a refusal.
func TestKernelOrRefusal(t *testing.T) {
	empty := 0
	for _, wall := range lawful() {
		corners, e := guard.Kernel(wall)
		weights, ok := guard.Refuse(wall)
		if ok != (e == api.ErrNone) || ok != (len(corners) == 0) || ok != guard.Refuses(wall, weights) {
			t.Fatalf("Kernel of %v: %s, %d; Refuse: %s, %t", wall, outline(corners), e, text(weights...), ok)
		}
		if ok {
			empty++
			if !isRefusal(wall, weights) {
				t.Fatalf("Refuse of %v: %s", wall, text(weights...))
			}
		}
		for _, p := range corners {
			if in, e := guard.InKernel(wall, p[0], p[1]); !in || e != api.OK {
				t.Fatalf("InKernel of %s in %v: %t, %d", text(p[:]...), wall, in, e)
			}
		}
	}
	if empty < 50 {
		t.Errorf("only %d kernels are empty", empty)
	}
}

// P7.6: if there is a point of the kernel, no three sides have a refusal.
func TestNoRefusal(t *testing.T) {
	for _, wall := range someWalls(300) {
		if _, e := guard.Kernel(wall); e == api.OK && len(refusalsOf(wall)) > 0 {
			t.Fatalf("%v has a kernel and a refusal", wall)
		}
	}
}

// P7.7: the triangles' areas add up to the area.
func TestAreas(t *testing.T) {
	for _, wall := range lawful() {
		for _, l := range divided(t, wall) {
			if !guard.IsDivision(wall, l) {
				t.Fatalf("IsDivision of %v, %v", wall, l)
			}
			var sum int64
			for _, tri := range l {
				c := cornersOf(wall, tri)
				sum += must(guard.Area(c[:]))
			}
			same(t, "the areas' sum", sum, must(guard.Area(wall)))
		}
	}
}

// P7.7: a wall that is its own kernel has as many triangulations as the Catalan number tells.
func TestCatalan(t *testing.T) {
	catalan := []int64{1}
	for n := int64(3); n <= 30; n++ {
		k := n - 2
		catalan = append(catalan, catalan[k-1]*2*(2*k-1)/(k+1))
		wall := bowl(n)
		for i := range wall { // elsewhere, and as large as can be
			wall[i] = point{wall[i][0]*60000 + wall[i][1]*7 + 1000, wall[i][1]*4000 - 90000}
		}
		if got, e := guard.Count(wall); got != catalan[k] || e != api.OK {
			t.Errorf("Count of %d corners: %d, %d, not %d", n, got, e, catalan[k])
		}
		isOwnKernel(t, wall)
	}
	for _, wall := range slices.Concat(tinyWalls(), someWalls(500)) {
		corners, _ := guard.Kernel(wall)
		if own := len(corners) == len(wall) && sumOfArea(corners) == twiceArea(wall); own != (must(guard.Count(wall)) == catalan[len(wall)-2]) {
			t.Fatalf("Count of %v: %d; its own kernel: %t", wall, must(guard.Count(wall)), own)
		}
	}
}

// isOwnKernel fails unless the kernel's corners are the wall's.
func isOwnKernel(t *testing.T, wall []point) {
	t.Helper()
	least := slices.Index(wall, slices.MinFunc(wall, comparePoints))
	corners, e := guard.Kernel(wall)
	if e != api.OK || len(corners) != len(wall) {
		t.Fatalf("Kernel of %v: %s, %d", wall, outline(corners), e)
	}
	for i, p := range corners {
		want := wall[(least+i)%len(wall)]
		if p[0].Cmp(frac.Of(want[0])) != 0 || p[1].Cmp(frac.Of(want[1])) != 0 {
			t.Fatalf("Kernel of %v: %s", wall, outline(corners))
		}
	}
}

// sumOfArea is twice the area of an outline if it is whole, otherwise -1.
func sumOfArea(corners [][2]frac.Rat) int64 {
	var sum frac.Rat
	for i, p := range corners {
		q := corners[(i+1)%len(corners)]
		sum = must(sum.Add(must(must(p[0].Mul(q[1])).Sub(must(p[1].Mul(q[0]))))))
	}
	if n, ok := sum.Num().Int64(); ok && sum.Den().Cmp(frac.Whole(1)) == 0 {
		return n
	}
	return -1
}
