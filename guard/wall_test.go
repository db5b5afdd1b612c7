package guard_test

import (
	"math"
	"math/rand"
	"reflect"
	"slices"
	"testing"

	"rabbet/api"
	"rabbet/frac"
	"rabbet/guard"
)

// isChecked fails unless Check tells what the definition does.
func isChecked(t *testing.T, wall []point) {
	t.Helper()
	want := api.OK
	if !isWall(wall) {
		want = api.ErrWall
	}
	if e := guard.Check(wall); e != want {
		t.Fatalf("Check of %v: %d, not %d", wall, e, want)
	}
}

// noWalls is lists of corners that are no walls, each for one reason.
func noWalls() map[string][]point {
	big, back := bowl(api.MaxWall+1), bowl(40)
	slices.Reverse(back)
	return map[string][]point{
		"nothing":                 nil,
		"one corner":              points("0 0"),
		"two corners":             points("0 0, 1 1"),
		"too many corners":        big,
		"the right, 40 corners":   back,
		"the right":               points("0 0, 0 4, 4 4, 4 0"),
		"a triangle's right":      points("0 0, 0 1, 1 0"),
		"a flat triangle":         points("0 0, 1 1, 2 2"),
		"the same corners":        points("0 0, 4 0, 4 4, 4 4, 0 4"),
		"the same point":          points("1 1, 1 1, 1 1"),
		"first and last":          points("0 0, 4 0, 4 4, 0 4, 0 0"),
		"a triangle twice around": points("0 0, 4 0, 0 4, 0 0, 4 0, 0 4"),
		"twice around":            points("0 0, 4 0, 4 4, 0 4, 0 0, 4 0, 4 4, 0 4"),
		"a straight corner":       points("0 0, 2 0, 4 0, 4 4, 0 4"),
		"a straight first":        points("2 0, 4 0, 4 4, 0 4, 0 0"),
		"a straight last":         points("4 0, 4 4, 0 4, 0 0, 2 0"),
		"a way back":              points("0 0, 4 0, 4 4, 4 2, 0 4"),
		"crossed sides":           points("0 0, 4 4, 4 0, 0 4"),
		"a touched corner":        points("0 0, 4 0, 4 4, 2 0, 0 4"),
		"two corners at a point":  points("0 0, 4 0, 2 2, 4 4, 0 4, 2 2"),
		"sides on one another":    points("0 0, 6 0, 6 2, 4 2, 4 0, 2 0, 2 2, 0 2"),
		"a corner on a side":      points("0 0, 6 0, 6 4, 3 0, 2 4, 0 4"),
		"a star":                  points("0 3, -2 -3, 3 1, -3 1, 2 -3"),
		"a star's other way":      points("2 -3, -3 1, 3 1, -2 -3, 0 3"),
		"too far right":           {{0, 0}, {limit + 1, 0}, {0, 1}},
		"too far left":            {{0, 0}, {0, 1}, {-limit - 1, 0}},
		"too high":                {{0, 0}, {1, 0}, {0, limit + 1}},
		"too low":                 {{0, 0}, {0, -limit - 1}, {1, 0}},
		"far too far":             {{math.MinInt64, math.MinInt64}, {math.MaxInt64, math.MinInt64}, {0, math.MaxInt64}},
		"once around":             {{math.MinInt64, 0}, {0, 0}, {0, 1}},
	}
}

// P7.1: what is a wall.
func TestCheckExamples(t *testing.T) {
	for name, wall := range noWalls() {
		if isWall(wall) {
			t.Fatalf("%s: a wall", name)
		}
		if e := guard.Check(wall); e != api.ErrWall {
			t.Errorf("%s: %d", name, e)
		}
	}
	for _, wall := range [][]point{
		square(), tower(), corner(), step(), comb(20), bowl(3), bowl(api.MaxWall),
		{{-limit, -limit}, {limit, -limit}, {limit, limit}, {-limit, limit}},
		{{limit, limit}, {-limit, limit}, {limit, limit - 1}},
		points("0 0, 6 0, 6 6, 4 6, 4 1, 2 1, 2 6, 0 6"),
		points("0 0, 2 0, 2 1, 3 1, 3 0, 5 0, 5 3, 0 3"), // sides on a line that do not follow one another
	} {
		isChecked(t, wall)
		if e := guard.Check(wall); e != api.OK {
			t.Errorf("Check of %v: %d", wall, e)
		}
	}
}

// P7.1: all short lists of corners of small grids.
func TestCheckAll(t *testing.T) {
	for corners := range 6 {
		number := 1
		for range corners {
			number *= 9
		}
		for code := range number {
			wall := make([]point, corners)
			for i := range wall {
				wall[i] = point{int64(code % 3), int64(code / 3 % 3)}
				code /= 9
			}
			isChecked(t, wall)
		}
	}
	for corners := 6; corners <= 9; corners++ {
		lists(3, 3, corners, func(l []point) { isChecked(t, l) })
	}
	lists(4, 3, 6, func(l []point) { isChecked(t, l) })
}

// P7.1: walls of which a corner is put elsewhere, and which begin elsewhere or go back.
func TestCheckMoved(t *testing.T) {
	r := rand.New(rand.NewSource(1))
	for _, wall := range slices.Concat(someWalls(200), manyCorners()) {
		isChecked(t, wall)
		back := slices.Clone(wall)
		slices.Reverse(back)
		if e := guard.Check(back); e != api.ErrWall {
			t.Fatalf("Check of %v: %d", back, e)
		}
		at := r.Intn(len(wall))
		if e := guard.Check(slices.Concat(wall[at:], wall[:at])); e != api.OK {
			t.Fatalf("Check of %v from corner %d: %d", wall, at, e)
		}
		for range 20 {
			moved := slices.Clone(wall)
			other := wall[r.Intn(len(wall))]
			moved[r.Intn(len(wall))] = point{other[0] + r.Int63n(5) - 2, other[1] + r.Int63n(5) - 2}
			isChecked(t, moved)
		}
	}
}

// call is a function that takes a wall, with bad other arguments where there can be any. Its last result is its error.
type call struct {
	name string
	do   func(wall []point) []any
}

func results(l ...any) []any { return l }

func calls() []call {
	off := point{limit + 1, 0}
	long := must(frac.Parse("1" + zeros(1000)))
	// errno is the error that stands for a false of a function without an error.
	errno := func(ok bool) api.Errno {
		if ok {
			return api.OK
		}
		return api.ErrWall
	}
	return []call{
		{"Check", func(w []point) []any { return results(guard.Check(w)) }},
		{"Area", func(w []point) []any { return results(guard.Area(w)) }},
		{"Where", func(w []point) []any { return results(guard.Where(w, off)) }},
		{"Sees", func(w []point) []any { return results(guard.Sees(w, off, off)) }},
		{"Sees from outside", func(w []point) []any { return results(guard.Sees(w, point{-77, 99}, point{0, 0})) }},
		{"Divide", func(w []point) []any { return results(guard.Divide(w)) }},
		{"IsDivision", func(w []point) []any { return results(errno(guard.IsDivision(w, [][3]int{{0, 1, 2}}))) }},
		{"IsDivision of nothing", func(w []point) []any { return results(errno(guard.IsDivision(w, nil))) }},
		{"Count", func(w []point) []any { return results(guard.Count(w)) }},
		{"Colours", func(w []point) []any { return results(guard.Colours(w, [][3]int{{0, 1, 2}})) }},
		{"Colours of nothing", func(w []point) []any { return results(guard.Colours(w, nil)) }},
		{"Guards", func(w []point) []any { return results(guard.Guards(w)) }},
		{"AreGuards", func(w []point) []any { return results(errno(guard.AreGuards(w, []int{0}, [][3]int{{0, 1, 2}}))) }},
		{"AreGuards of nothing", func(w []point) []any { return results(errno(guard.AreGuards(w, nil, nil))) }},
		{"Kernel", func(w []point) []any { return results(guard.Kernel(w)) }},
		{"Refuse", func(w []point) []any {
			weights, ok := guard.Refuse(w)
			return results(weights, errno(ok))
		}},
		{"Refuses", func(w []point) []any { return results(errno(guard.Refuses(w, make([]frac.Rat, len(w))))) }},
		{"InKernel", func(w []point) []any { return results(guard.InKernel(w, long, long)) }},
		{"InKernel of a point", func(w []point) []any { return results(guard.InKernel(w, frac.Rat{}, frac.Rat{})) }},
	}
}

// fails checks the error of results, and that all others are zero values.
func fails(t *testing.T, name string, want api.Errno, l ...any) {
	t.Helper()
	last := len(l) - 1
	if l[last] != want {
		t.Fatalf("%s: %d, not %d", name, l[last], want)
	}
	for _, x := range l[:last] {
		v := reflect.ValueOf(x)
		if !v.IsZero() && (v.Kind() != reflect.Slice || v.Len() > 0) {
			t.Fatalf("%s: %v next to an error", name, x)
		}
	}
}

// P7.1: no function takes what is no wall, and that comes before any other error.
func TestWallFirst(t *testing.T) {
	for name, wall := range noWalls() {
		for _, c := range calls() {
			fails(t, c.name+" of "+name, api.ErrWall, c.do(wall)...)
		}
	}
}

// P7.1: Area.
func TestArea(t *testing.T) {
	for _, x := range []struct {
		wall []point
		want int64
	}{
		{square(), 32}, {tower(), 56}, {corner(), 40}, {step(), 32}, {points("0 0, 1 0, 0 1"), 1},
		{[]point{{-limit, -limit}, {limit, -limit}, {limit, limit}, {-limit, limit}}, 8e12},
		{[]point{{limit, limit}, {-limit, limit}, {limit, limit - 1}}, 2e6},
	} {
		got, e := guard.Area(x.wall)
		if got != x.want || e != api.OK {
			t.Errorf("Area of %v: %d, %d, not %d", x.wall, got, e, x.want)
		}
	}
	for _, wall := range slices.Concat(someWalls(300), manyCorners(), tinyWalls()) {
		same(t, "Area", must(guard.Area(wall)), twiceArea(wall))
	}
}

// P7.1: where points are.
func TestWhereExamples(t *testing.T) {
	for _, x := range []struct {
		wall []point
		p    point
		want int
	}{
		{square(), point{2, 2}, guard.Inside}, {square(), point{0, 0}, guard.Border}, {square(), point{4, 4}, guard.Border},
		{square(), point{4, 1}, guard.Border}, {square(), point{1, 4}, guard.Border}, {square(), point{5, 4}, guard.Outside},
		{square(), point{-1, 0}, guard.Outside}, {square(), point{-1, 4}, guard.Outside}, {square(), point{-1, 2}, guard.Outside},
		{square(), point{4, 5}, guard.Outside}, {square(), point{2, -1}, guard.Outside}, {square(), point{1, 3}, guard.Inside},
		{tower(), point{3, 4}, guard.Outside}, {tower(), point{3, 2}, guard.Border}, {tower(), point{3, 1}, guard.Inside},
		{tower(), point{1, 2}, guard.Inside}, {tower(), point{5, 2}, guard.Inside}, {tower(), point{2, 6}, guard.Border},
		{tower(), point{3, 6}, guard.Outside}, {tower(), point{-3, 6}, guard.Outside}, {tower(), point{-3, 2}, guard.Outside},
		{square(), point{limit, limit}, guard.Outside}, {square(), point{-limit, -limit}, guard.Outside},
	} {
		got, e := guard.Where(x.wall, x.p)
		if got != x.want || e != api.OK {
			t.Errorf("Where of %v in %v: %d, %d, not %d", x.p, x.wall, got, e, x.want)
		}
	}
	if guard.Outside != -1 || guard.Border != 0 || guard.Inside != 1 {
		t.Errorf("the constants: %d, %d, %d", guard.Outside, guard.Border, guard.Inside)
	}
}

// noPoints is points with a number out of range.
func noPoints() []point {
	var out []point
	for _, n := range []int64{limit + 1, -limit - 1, math.MaxInt64, math.MinInt64, math.MinInt64 / 2} {
		out = append(out, point{n, 0}, point{0, n}, point{n, n})
	}
	return out
}

// P7.1: points out of range; those in range of which one is outside come later.
func TestPointErrors(t *testing.T) {
	for _, p := range noPoints() {
		fails(t, "Where", api.ErrArg, results(guard.Where(square(), p))...)
		for _, q := range []point{{1, 1}, {9, 9}, p} {
			fails(t, "Sees", api.ErrArg, results(guard.Sees(square(), p, q))...)
			fails(t, "Sees", api.ErrArg, results(guard.Sees(square(), q, p))...)
		}
	}
	for _, p := range []point{{9, 9}, {-1, 0}, {0, -1}, {5, 4}, {limit, limit}, {-limit, limit}} {
		for _, q := range []point{{1, 1}, {0, 0}, {4, 2}, p, {-9, 9}} {
			fails(t, "Sees", api.ErrNone, results(guard.Sees(square(), p, q))...)
			fails(t, "Sees", api.ErrNone, results(guard.Sees(square(), q, p))...)
		}
	}
}

// grid is all points in and around a wall of tiny numbers.
func grid(wall []point) []point {
	low, high := wall[0], wall[0]
	for _, p := range wall {
		low = point{min(low[0], p[0]), min(low[1], p[1])}
		high = point{max(high[0], p[0]), max(high[1], p[1])}
	}
	var out []point
	for x := low[0] - 1; x <= high[0]+1; x++ {
		for y := low[1] - 1; y <= high[1]+1; y++ {
			out = append(out, point{x, y})
		}
	}
	return out
}

// spread is a map of tiny numbers to large ones that keeps points on lines.
func spread(p point) point {
	return point{29999*p[0] + 7*p[1] - 30000, 3*p[0] + 27001*p[1] + 12345}
}

func spreadAll(wall []point) []point {
	var out []point
	for _, p := range wall {
		out = append(out, spread(p))
	}
	return out
}

// P7.1: where all points around a wall are.
func TestWhereAll(t *testing.T) {
	for _, wall := range slices.Concat(tinyWalls(), someWalls(400)) {
		wall = scaledAll(wall, 2)
		large := spreadAll(wall)
		isChecked(t, large)
		for _, p := range grid(wall) {
			want := whereIs(wall, p)
			if got := must(guard.Where(wall, p)); got != want {
				t.Fatalf("Where of %v in %v: %d, not %d", p, wall, got, want)
			}
			if got := must(guard.Where(large, spread(p))); got != want {
				t.Fatalf("Where of %v in %v: %d, not %d", spread(p), large, got, want)
			}
		}
	}
	r := rand.New(rand.NewSource(2))
	for _, wall := range manyCorners() {
		for range 300 {
			p, q := wall[r.Intn(len(wall))], wall[r.Intn(len(wall))]
			for _, x := range []point{{p[0], q[1]}, {(p[0] + q[0]) / 2, (p[1] + q[1]) / 2}, {p[0] + r.Int63n(3) - 1, p[1] + r.Int63n(3) - 1}} {
				same(t, "Where", must(guard.Where(wall, x)), whereIs(wall, x))
			}
		}
	}
}

// P7.1: near a long side, one step decides.
func TestWhereNear(t *testing.T) {
	wall := []point{{-limit, -limit}, {limit, limit - 1}, {-limit, limit}}
	for _, x := range []struct {
		p    point
		want int
	}{
		{point{0, 0}, guard.Inside}, {point{0, -1}, guard.Outside}, {point{limit - 1, limit - 1}, guard.Inside}, {point{limit - 1, limit - 2}, guard.Outside},
		{point{limit, limit - 1}, guard.Border}, {point{limit, limit}, guard.Outside}, {point{limit, limit - 2}, guard.Outside}, {point{-limit, 0}, guard.Border},
	} {
		same(t, "Where", must(guard.Where(wall, x.p)), x.want)
	}
}

// P7.1: who sees whom.
func TestSeesExamples(t *testing.T) {
	for _, x := range []struct {
		wall []point
		p, q point
		want bool
	}{
		{square(), point{0, 0}, point{4, 4}, true}, {square(), point{2, 2}, point{2, 2}, true}, {square(), point{0, 0}, point{0, 0}, true},
		{square(), point{0, 1}, point{0, 3}, true}, {square(), point{0, 0}, point{4, 0}, true},
		{tower(), point{1, 6}, point{5, 6}, false}, {tower(), point{1, 2}, point{5, 2}, true}, {tower(), point{0, 2}, point{6, 2}, true},
		{tower(), point{2, 2}, point{4, 2}, true}, {tower(), point{2, 6}, point{4, 6}, false}, {tower(), point{1, 3}, point{5, 3}, false},
		{tower(), point{2, 6}, point{2, 0}, true}, {tower(), point{2, 6}, point{2, 2}, true}, {tower(), point{1, 3}, point{3, 1}, true},
		{tower(), point{0, 4}, point{4, 0}, true}, {tower(), point{0, 5}, point{4, 0}, false}, {tower(), point{0, 6}, point{6, 6}, false},
		{step(), point{0, 2}, point{6, 2}, true}, {step(), point{0, 2}, point{2, 2}, true}, {step(), point{0, 0}, point{6, 4}, true}, {step(), point{0, 0}, point{4, 4}, true},
		{step(), point{0, 1}, point{6, 2}, false}, {step(), point{0, 1}, point{6, 3}, true},
		{points("0 0, 2 0, 2 1, 3 1, 3 0, 5 0, 5 3, 0 3"), point{0, 0}, point{5, 0}, false},
		{points("0 0, 2 0, 2 1, 3 1, 3 0, 5 0, 5 3, 0 3"), point{0, 1}, point{5, 1}, true},
		{points("0 0, 2 1, 4 0, 4 4"), point{0, 0}, point{4, 0}, false},
	} {
		for _, way := range [][2]point{{x.p, x.q}, {x.q, x.p}} {
			got, e := guard.Sees(x.wall, way[0], way[1])
			if got != x.want || e != api.OK {
				t.Errorf("Sees of %v in %v: %t, %d, not %t", way, x.wall, got, e, x.want)
			}
		}
	}
}

// P7.1: all points around a wall, by the definition.
func TestSeesAll(t *testing.T) {
	for i, wall := range slices.Concat(tinyWalls(), someWalls(120)) {
		if i < 600 {
			wall = scaledAll(wall, 2)
		}
		large := spreadAll(wall)
		var in []point
		for _, p := range grid(wall) {
			if whereIs(wall, p) != guard.Outside {
				in = append(in, p)
			}
		}
		r := rand.New(rand.NewSource(int64(i)))
		for range min(len(in)*len(in), 150) {
			p, q := in[r.Intn(len(in))], in[r.Intn(len(in))]
			want := doSee(wall, p, q)
			if got, e := guard.Sees(wall, p, q); got != want || e != api.OK {
				t.Fatalf("Sees of %v and %v in %v: %t, %d, not %t", p, q, wall, got, e, want)
			}
			if got, e := guard.Sees(large, spread(p), spread(q)); got != want || e != api.OK {
				t.Fatalf("Sees of %v and %v in %v: %t, %d, not %t", spread(p), spread(q), large, got, e, want)
			}
		}
	}
}

// P7.1: Sees tells of all pairs of corners what the definition does.
func TestSeesCorners(t *testing.T) {
	for _, wall := range slices.Concat(tinyWalls(), someWalls(400)) {
		for pair, want := range factsOf(wall).see {
			p, q := wall[pair[0]], wall[pair[1]]
			if got, e := guard.Sees(wall, p, q); got != want || e != api.OK {
				t.Fatalf("Sees of %v and %v in %v: %t, %d, not %t", p, q, wall, got, e, want)
			}
		}
	}
}
