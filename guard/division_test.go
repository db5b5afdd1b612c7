package guard_test

import (
	"fmt"
	"math"
	"math/rand"
	"reflect"
	"slices"
	"testing"

	"rabbet/api"
	"rabbet/guard"
)

// fewCorners is walls for which all triangulations can be listed.
func fewCorners() [][]point {
	var out [][]point
	for _, wall := range slices.Concat(tinyWalls(), someWalls(300)) {
		if len(wall) <= 8 {
			out = append(out, wall)
		}
	}
	return out
}

// isDivided fails unless a list is a triangulation by the definition.
func isDivided(t *testing.T, wall []point, l [][3]int, e api.Errno) {
	t.Helper()
	if e != api.OK || !factsOf(wall).isTriangulation(l) {
		t.Fatalf("a triangulation of %v: %v, %d", wall, l, e)
	}
}

// P7.2: Divide returns a triangulation, and IsDivision knows it.
func TestDivide(t *testing.T) {
	for _, wall := range slices.Concat(tinyWalls(), someWalls(500)) {
		l, e := guard.Divide(wall)
		isDivided(t, wall, l, e)
		if !guard.IsDivision(wall, l) {
			t.Fatalf("IsDivision of %v, %v", wall, l)
		}
		if large, e := guard.Divide(spreadAll(wall)); e != api.OK || !guard.IsDivision(wall, large) {
			t.Fatalf("Divide of %v: %v, %d", spreadAll(wall), large, e)
		}
	}
	l, e := guard.Divide(points("0 0, 1 0, 0 1"))
	if !reflect.DeepEqual(l, [][3]int{{0, 1, 2}}) || e != api.OK {
		t.Errorf("Divide of a triangle: %v, %d", l, e)
	}
	l, e = guard.Divide(points("0 0, 4 0, 1 1, 0 4"))
	if !reflect.DeepEqual(l, [][3]int{{0, 1, 2}, {0, 2, 3}}) || e != api.OK {
		t.Errorf("Divide of an arrow: %v, %d", l, e)
	}
}

// cutsOff is a wall with corner 2 between corners 1 and 3 of a straight line: 0 sees all, but 1 and 3 are no triangle's side.
func cutsOff() []point { return points("0 0, 4 0, 4 4, 2 2, 0 4") }

// P7.2: lists that are no triangulations.
func TestIsDivisionExamples(t *testing.T) {
	for _, x := range []struct {
		name string
		wall []point
		l    [][3]int
		want bool
	}{
		{"one way", square(), [][3]int{{0, 1, 2}, {0, 2, 3}}, true},
		{"the other", square(), [][3]int{{0, 1, 3}, {1, 2, 3}}, true},
		{"a triangle", points("0 0, 1 0, 0 1"), [][3]int{{0, 1, 2}}, true},
		{"nothing", square(), nil, false},
		{"empty", square(), [][3]int{}, false},
		{"too few", square(), [][3]int{{0, 1, 2}}, false},
		{"too many", square(), [][3]int{{0, 1, 2}, {0, 2, 3}, {1, 2, 3}}, false},
		{"one of a triangle too many", points("0 0, 1 0, 0 1"), [][3]int{{0, 1, 2}, {0, 1, 2}}, false},
		{"the same", square(), [][3]int{{0, 1, 2}, {0, 1, 2}}, false},
		{"a falling list", square(), [][3]int{{0, 2, 3}, {0, 1, 2}}, false},
		{"a falling triangle", square(), [][3]int{{0, 2, 1}, {0, 2, 3}}, false},
		{"a turned triangle", square(), [][3]int{{0, 1, 2}, {2, 3, 0}}, false},
		{"overlapping", square(), [][3]int{{0, 1, 2}, {0, 1, 3}}, false},
		{"overlapping, with the same area", square(), [][3]int{{0, 1, 2}, {1, 2, 3}}, false},
		{"a corner twice", square(), [][3]int{{0, 0, 2}, {0, 2, 3}}, false},
		{"a corner three times", square(), [][3]int{{0, 0, 0}, {0, 2, 3}}, false},
		{"below 0", square(), [][3]int{{-1, 1, 2}, {0, 2, 3}}, false},
		{"above the last", square(), [][3]int{{0, 1, 2}, {0, 2, 4}}, false},
		{"far out", square(), [][3]int{{math.MinInt, 0, math.MaxInt}, {0, 2, math.MaxInt}}, false},
		{"outside", points("0 0, 4 0, 1 1, 0 4"), [][3]int{{0, 1, 3}, {1, 2, 3}}, false},
		{"on a line", cutsOff(), [][3]int{{0, 1, 3}, {0, 3, 4}, {1, 2, 3}}, true},
		{"on a line, flat", cutsOff(), [][3]int{{0, 1, 2}, {0, 2, 3}, {0, 3, 4}}, false},
		{"on a line, past a corner", points("0 0, 4 0, 2 2, 4 4, 0 4"), [][3]int{{0, 1, 2}, {0, 2, 4}, {2, 3, 4}}, true},
		{"past a corner", points("0 0, 4 0, 2 2, 4 4, 0 4"), [][3]int{{0, 1, 2}, {0, 3, 4}, {2, 3, 4}}, false},
		{"another wall's", points("0 0, 4 0, 4 4, 0 4, -1 2"), [][3]int{{0, 1, 2}, {0, 2, 3}}, false},
		{"five", points("0 0, 4 0, 4 4, 0 4, -1 2"), [][3]int{{0, 1, 2}, {0, 2, 3}, {0, 3, 4}}, true},
	} {
		if got := guard.IsDivision(x.wall, x.l); got != x.want {
			t.Errorf("%s: %t", x.name, got)
		}
	}
}

func anyFits([][3]int, [3]int) bool { return true }

// P7.2: all lists of triangles that rise, by the definition, and Count.
func TestIsDivisionAll(t *testing.T) {
	for _, wall := range fewCorners() {
		f := factsOf(wall)
		want := int64(len(triangulations(wall)))
		if got, e := guard.Count(wall); got != want || e != api.OK {
			t.Fatalf("Count of %v: %d, %d, not %d", wall, got, e, want)
		}
		same(t, "Count of large numbers", must(guard.Count(spreadAll(wall))), want)
		if len(wall) > 5 {
			continue
		}
		for number := range len(wall) {
			chosen(allTriples(len(wall)), number, anyFits, func(l [][3]int) {
				if got, want := guard.IsDivision(wall, l), f.isTriangulation(l); got != want {
					t.Fatalf("IsDivision of %v, %v: %t", wall, l, got)
				}
			})
		}
	}
}

// P7.2: all triangulations, and lists that differ from them in a triangle.
func TestIsDivisionChanged(t *testing.T) {
	r := rand.New(rand.NewSource(3))
	for i, wall := range fewCorners() {
		if i%3 > 0 && len(wall) > 5 {
			continue
		}
		f := factsOf(wall)
		all := allTriples(len(wall))
		for _, l := range triangulations(wall) {
			if !guard.IsDivision(wall, l) {
				t.Fatalf("IsDivision of %v, %v", wall, l)
			}
			for range 4 {
				changed := slices.Clone(l)
				changed[r.Intn(len(l))] = all[r.Intn(len(all))]
				slices.SortFunc(changed, func(t, u [3]int) int { return slices.Compare(t[:], u[:]) })
				if got, want := guard.IsDivision(wall, changed), f.isTriangulation(changed); got != want {
					t.Fatalf("IsDivision of %v, %v: %t", wall, changed, got)
				}
			}
		}
	}
}

// P7.2: the limit of Count.
func TestCountLimit(t *testing.T) {
	if got, e := guard.Count(bowl(30)); got != 263747951750360 || e != api.OK {
		t.Errorf("Count of 30 corners: %d, %d", got, e)
	}
	for _, wall := range [][]point{bowl(31), bowl(api.MaxWall), comb(11)} {
		fails(t, "Count", api.ErrLong, results(guard.Count(wall))...)
	}
	for _, x := range []struct {
		wall []point
		want int64
	}{
		{points("0 0, 1 0, 0 1"), 1}, {square(), 2}, {bowl(5), 5}, {points("0 0, 4 0, 1 1, 0 4"), 1}, {cutsOff(), 1},
		{points("0 0, 4 0, 4 4, 3 2, 0 4"), 2}, {tower(), 8}, {corner(), 4},
	} {
		if got, e := guard.Count(x.wall); got != x.want || e != api.OK {
			t.Errorf("Count of %v: %d, %d, not %d", x.wall, got, e, x.want)
		}
	}
}

// P7.2: the colours of a triangulation, and no others.
func TestColours(t *testing.T) {
	for _, x := range []struct {
		wall []point
		l    [][3]int
		want []int
	}{
		{points("0 0, 1 0, 0 1"), [][3]int{{0, 1, 2}}, []int{0, 1, 2}},
		{square(), [][3]int{{0, 1, 2}, {0, 2, 3}}, []int{0, 1, 2, 1}},
		{square(), [][3]int{{0, 1, 3}, {1, 2, 3}}, []int{0, 1, 0, 2}},
		{bowl(6), [][3]int{{0, 1, 5}, {1, 2, 3}, {1, 3, 5}, {3, 4, 5}}, []int{0, 1, 2, 0, 1, 2}},
		{bowl(6), [][3]int{{0, 1, 2}, {0, 2, 5}, {2, 3, 5}, {3, 4, 5}}, []int{0, 1, 2, 0, 2, 1}},
	} {
		got, e := guard.Colours(x.wall, x.l)
		if !reflect.DeepEqual(got, x.want) || e != api.OK {
			t.Errorf("Colours of %v, %v: %v, %d, not %v", x.wall, x.l, got, e, x.want)
		}
	}
	for _, l := range [][][3]int{nil, {{0, 1, 2}}, {{0, 1, 2}, {1, 2, 3}}, {{0, 2, 3}, {0, 1, 2}}, {{0, 1, 2}, {0, 2, 4}}, {{-1, 1, 2}, {0, 2, 3}}, {{0, 1, 2}, {0, 2, 3}, {1, 2, 3}}} {
		fails(t, "Colours", api.ErrArg, results(guard.Colours(square(), l))...)
	}
	fails(t, "Colours", api.ErrArg, results(guard.Colours(points("0 0, 4 0, 1 1, 0 4"), [][3]int{{0, 1, 3}, {1, 2, 3}}))...)
}

// isGuarded is the definition.
func isGuarded(corners int, guards []int, l [][3]int) bool {
	for i, g := range guards {
		if g < 0 || g >= corners || i > 0 && guards[i-1] >= g {
			return false
		}
	}
	for _, t := range l {
		if !slices.ContainsFunc(guards, func(g int) bool { return g == t[0] || g == t[1] || g == t[2] }) {
			return false
		}
	}
	return true
}

// P7.3: guards and their triangulation.
func TestGuards(t *testing.T) {
	for _, wall := range slices.Concat(tinyWalls(), someWalls(300), manyCorners()) {
		guards, l, e := guard.Guards(wall)
		if e != api.OK || !guard.IsDivision(wall, l) || !isGuarded(len(wall), guards, l) || len(guards) > len(wall)/3 {
			t.Fatalf("Guards of %v: %v, %v, %d", wall, guards, l, e)
		}
		if !guard.AreGuards(wall, guards, l) {
			t.Fatalf("AreGuards of %v, %v, %v", wall, guards, l)
		}
		if len(wall) <= 9 && len(wall) > 5 {
			isDivided(t, wall, l, e)
		}
	}
	for n := int64(1); n <= 20; n++ { // each prong needs its own
		if guards, _, e := guard.Guards(comb(n)); len(guards) != int(n) || e != api.OK {
			t.Errorf("Guards of %d prongs: %v, %d", n, guards, e)
		}
	}
	if guards, _, e := guard.Guards(tower()); len(guards) > 2 || e != api.OK {
		t.Errorf("Guards of the example: %v, %d", guards, e)
	}
}

// P7.3: what guards are, for all lists of corners.
func TestAreGuardsAll(t *testing.T) {
	for i, wall := range fewCorners() {
		if i%4 > 0 || len(wall) > 7 {
			continue
		}
		for _, l := range triangulations(wall) {
			for set := range 1 << len(wall) {
				var guards []int
				for c := range wall {
					if set>>c&1 == 1 {
						guards = append(guards, c)
					}
				}
				if got, want := guard.AreGuards(wall, guards, l), isGuarded(len(wall), guards, l); got != want {
					t.Fatalf("AreGuards of %v, %v, %v: %t", wall, guards, l, got)
				}
			}
		}
	}
}

// P7.3: lists that are no guards, and triangles that are no triangulation.
func TestAreGuardsExamples(t *testing.T) {
	good := [][3]int{{0, 1, 2}, {0, 2, 3}}
	for _, x := range []struct {
		guards []int
		l      [][3]int
		want   bool
	}{
		{[]int{0}, good, true}, {[]int{2}, good, true}, {[]int{1}, good, false}, {[]int{3}, good, false}, {[]int{1, 3}, good, true},
		{[]int{0, 2}, good, true}, {[]int{0, 1, 2, 3}, good, true}, {nil, good, false}, {[]int{}, good, false},
		{[]int{3, 1}, good, false}, {[]int{2, 0}, good, false}, {[]int{0, 0}, good, false}, {[]int{0, 1, 1}, good, false},
		{[]int{-1, 0}, good, false}, {[]int{0, 4}, good, false}, {[]int{4}, good, false}, {[]int{math.MinInt, 0}, good, false}, {[]int{0, math.MaxInt}, good, false},
		{[]int{0}, good[:1], false}, {[]int{0}, nil, false}, {[]int{2}, [][3]int{{0, 1, 2}, {1, 2, 3}}, false}, {[]int{0}, [][3]int{good[1], good[0]}, false},
		{[]int{0, 1, 2, 3}, [][3]int{{0, 1, 2}, {0, 2, 4}}, false},
	} {
		if got := guard.AreGuards(square(), x.guards, x.l); got != x.want {
			t.Errorf("AreGuards of %v, %v: %t", x.guards, x.l, got)
		}
	}
}

// R4 and R7: arguments stay as they are, nothing beyond their length is read or written, and results are new memory.
func TestDivisionMemory(t *testing.T) {
	beyond := append(tower(), point{limit + 1, 0}, point{7, 7})
	wall := beyond[:8]
	before := fmt.Sprint(beyond)
	guards, l, _ := guard.Guards(wall)
	first := fmt.Sprint(guards, l)
	longer := append(slices.Clone(l), [3]int{9, 9, 9})
	more := append(slices.Clone(guards), 99)
	if !guard.AreGuards(wall, more[:len(guards)], longer[:len(l)]) || !guard.IsDivision(wall, longer[:len(l)]) {
		t.Error("what is beyond the length is read")
	}
	colours, _ := guard.Colours(wall, longer[:len(l)])
	again, _ := guard.Colours(wall, l)
	if !reflect.DeepEqual(colours, again) || longer[len(l)] != [3]int{9, 9, 9} || more[len(guards)] != 99 {
		t.Error("what is beyond the length is read or written")
	}
	if fmt.Sprint(guards, l) != first || fmt.Sprint(beyond) != before {
		t.Error("arguments were changed")
	}
	clear(guards)
	clear(l)
	clear(colours)
	divided, _ := guard.Divide(wall)
	clear(divided)
	guards, l, _ = guard.Guards(wall)
	if fmt.Sprint(guards, l) != first {
		t.Errorf("Guards: %v, %v, then %s", guards, l, first)
	}
	if divided, _ = guard.Divide(wall); !guard.IsDivision(wall, divided) {
		t.Errorf("Divide: %v", divided)
	}
	if colours, _ = guard.Colours(wall, l); !reflect.DeepEqual(colours, again) {
		t.Errorf("Colours: %v", colours)
	}
}
