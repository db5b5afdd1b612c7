package guard_test

import (
	"fmt"
	"math/big"
	"math/rand"
	"slices"
	"strings"
	"testing"

	"rabbet/api"
	"rabbet/frac"
	"rabbet/guard"
)

// P7.4: the chapter's examples, other kernels that are worked out, and the limits.
func TestKernelExamples(t *testing.T) {
	for _, x := range []struct {
		wall []point
		want string
	}{
		{square(), "0 0, 4 0, 4 4, 0 4"},
		{points("4 4, 0 4, 0 0, 4 0"), "0 0, 4 0, 4 4, 0 4"},
		{corner(), "4 0, 6 0, 6 2, 4 2"},
		{step(), "2 2, 4 2"},
		{points("2 1, 3 3, 2 3, 2 2, 1 3, 1 0, 3 0"), "2 1"},
		{points("1 1, 3 2, 1 2, 3 3, 0 2, 0 1, 2 0, 3 0"), "0 3/2"},
		{points("0 0, 1 0, 0 1"), "0 0, 1 0, 0 1"},
		{points("0 0, 4 0, 1 1, 0 4"), "0 0, 4/3 0, 1 1, 0 4/3"},
		{points("0 0, 2 0, 2 1, 3 1, 3 0, 5 0, 5 3, 0 3"), ""},
		{points("0 2, 0 0, 2 0, 2 -2, 4 -2, 4 2"), "2 0, 4 0, 4 2, 2 2"},
		{[]point{{-limit, -limit}, {limit, -limit}, {limit, limit}, {-limit, limit}}, "-1000000 -1000000, 1000000 -1000000, 1000000 1000000, -1000000 1000000"},
		{[]point{{limit, limit}, {-limit, limit}, {limit, limit - 1}}, "-1000000 1000000, 1000000 999999, 1000000 1000000"},
	} {
		got, e := guard.Kernel(x.wall)
		if x.want == "" {
			fails(t, "Kernel", api.ErrNone, got, e)
		} else if outline(got) != x.want || e != api.OK {
			t.Errorf("Kernel of %v: %s, %d, not %s", x.wall, outline(got), e, x.want)
		}
	}
	fails(t, "Kernel of the second example", api.ErrNone, results(guard.Kernel(tower()))...)
}

// ordered is the corners of a kernel in their order: they come around the least one to the left.
func ordered(corners [][2]*big.Rat) string {
	slices.SortFunc(corners, compareBig)
	first := corners[0]
	slices.SortFunc(corners[1:], func(p, q [2]*big.Rat) int {
		var a, b [2]*big.Rat
		for k := range first {
			a[k], b[k] = new(big.Rat).Sub(p[k], first[k]), new(big.Rat).Sub(q[k], first[k])
		}
		return times(a[1], b[0]).Cmp(times(a[0], b[1]))
	})
	var out []string
	for _, p := range corners {
		out = append(out, p[0].RatString()+" "+p[1].RatString())
	}
	return strings.Join(out, ", ")
}

func compareBig(p, q [2]*big.Rat) int {
	if order := p[0].Cmp(q[0]); order != 0 {
		return order
	}
	return p[1].Cmp(q[1])
}

// isKernel fails unless Kernel tells what the definition does, and Refuse has a refusal just if there is no kernel.
func isKernel(t *testing.T, wall []point) {
	t.Helper()
	got, e := guard.Kernel(wall)
	weights, ok := guard.Refuse(wall)
	want := kernelOf(wall)
	if len(want) == 0 {
		fails(t, "Kernel", api.ErrNone, got, e)
		if !ok || !isRefusal(wall, weights) || !guard.Refuses(wall, weights) || slices.ContainsFunc(weights, isLong) {
			t.Fatalf("Refuse of %v: %s, %t", wall, text(weights...), ok)
		}
		return
	}
	if text := ordered(want); outline(got) != text || e != api.OK {
		t.Fatalf("Kernel of %v: %s, %d, not %s", wall, outline(got), e, text)
	}
	if ok || len(weights) > 0 {
		t.Fatalf("Refuse of %v: %s, %t", wall, text(weights...), ok)
	}
}

func isLong(r frac.Rat) bool {
	return len(toBig(r).Num().String()) > 1001 || len(toBig(r).Denom().String()) > 1000
}

// P7.4: kernels and refusals by the definitions.
func TestKernelAll(t *testing.T) {
	for i, wall := range slices.Concat(someWalls(2500), tinyWalls()) {
		isKernel(t, wall)
		if i%5 == 0 {
			isKernel(t, spreadAll(wall))
		}
	}
	for _, wall := range manyCorners() {
		if len(wall) < 50 {
			isKernel(t, wall)
		}
	}
}

// P7.4: the kernel's corners come in the same order wherever the wall begins.
func TestKernelTurned(t *testing.T) {
	for _, wall := range someWalls(60) {
		first, e := guard.Kernel(wall)
		for at := range wall {
			got, f := guard.Kernel(slices.Concat(wall[at:], wall[:at]))
			if outline(got) != outline(first) || e != f {
				t.Fatalf("Kernel of %v from corner %d: %s, %d", wall, at, outline(got), f)
			}
		}
	}
}

// with is numbers of which some are others: pairs of a position and a fraction.
func with(l []frac.Rat, changes ...any) []frac.Rat {
	out := slices.Clone(l)
	for i := 0; i < len(changes); i += 2 {
		out[changes[i].(int)] = numbers(changes[i+1].(string))[0]
	}
	return out
}

// P7.4: refusals of the second example, and weights that are none.
func TestRefusesExamples(t *testing.T) {
	good := numbers("0 0 0 1 0 1 0 0")
	long, longest := "1"+zeros(999), strings.Repeat("9", 1000)
	for _, x := range []struct {
		name    string
		weights []frac.Rat
		want    bool
	}{
		{"the example", good, true},
		{"fractions", with(good, 3, "2/7", 5, "2/7"), true},
		{"0", numbers("0 0 0 0 0 0 0 0"), false},
		{"one weight", with(good, 3, "0"), false},
		{"the other", with(good, 5, "0"), false},
		{"different weights", with(good, 3, "2"), false},
		{"below 0", with(good, 3, "-1", 5, "-1"), false},
		{"one below 0", with(good, 3, "-1"), false},
		{"too few", good[:7], false},
		{"too many", append(slices.Clone(good), frac.Rat{}), false},
		{"nothing", nil, false},
		{"three weights", numbers("0 1/30 0 1 0 19/20 0 0"), true},
		{"three weights, otherwise wrong", numbers("0 1/30 0 1 0 1 0 0"), false},
		{"four weights, otherwise right", with(good, 0, "1/10", 2, "3/10"), false},
		{"four weights, at the end", with(good, 1, "1/10", 7, "1/10"), false},
		{"the outer sides, of which the sum is above 0", numbers("0 1 0 0 0 0 0 1"), false},
		{"other directions", numbers("1 0 0 0 0 1 0 0"), false},
		{"1000 digits", with(good, 3, long, 5, long), true},
		{"1000 nines", with(good, 3, longest, 5, longest), true},
		{"1000 digits below", with(good, 3, "1/"+long, 5, "1/"+long), true},
		{"1000 nines and a number near it", with(good, 3, longest+"/"+long, 5, longest+"/"+long), true},
		{"nearly the same", with(good, 3, longest+"/"+long, 5, longest[:999]+"7/"+long), false},
		{"1001 digits", with(good, 3, long+"0", 5, long+"0"), false},
		{"1001 digits below", with(good, 3, "1/"+long+"0", 5, "1/"+long+"0"), false},
		{"30000 digits", with(good, 3, "1"+zeros(29999), 5, "1"+zeros(29999)), false},
	} {
		if got := guard.Refuses(tower(), x.weights); got != x.want {
			t.Errorf("%s: %t", x.name, got)
		}
	}
}

// P7.4: a sum of 0 is not below 0, and directions may be right where the sum is not.
func TestRefusesZero(t *testing.T) {
	for _, x := range []struct {
		wall    []point
		weights string
		want    bool
	}{
		{step(), "0 0 1 0 0 0 1 0", false},           // two sides of a line
		{square(), "1 0 1 0", false},                 // a sum above 0
		{square(), "-1 0 -1 0", false},               // one below 0, of weights below 0
		{square(), "0 -1/2 0 -1/2", false},           //
		{points("0 0, 1 0, 0 1"), "-1 -1 -1", false}, //
		{square(), "0 0 0 0", false},                 //
		{points("0 0, 1 0, 0 1"), "1 1 1", false},    // the area
		{points("0 0, 1 0, 0 1"), "2 2 2", false},    //
		{points("0 0, 1 0, 0 1"), "1 1 1/2", false},  //
	} {
		if got := guard.Refuses(x.wall, numbers(x.weights)); got != x.want {
			t.Errorf("Refuses of %v, %s: %t", x.wall, x.weights, got)
		}
	}
}

// windmill is a wall of which three sides refuse the kernel, and no two do.
func windmill() []point { return points("1 2, 3 0, 5 1, 3 4, 4 5, 1 5, 4 2") }

// P7.4: refusals of random walls, changed in one weight, times a number, and together.
func TestRefusesAll(t *testing.T) {
	r := rand.New(rand.NewSource(4))
	three := 0
	for _, wall := range append(someWalls(1000), windmill()) {
		refusals := refusalsOf(wall)
		if weights, ok := guard.Refuse(wall); ok {
			refusals = append(refusals, weights)
		}
		for i, weights := range refusals {
			if !isRefusal(wall, weights) || !guard.Refuses(wall, weights) {
				t.Fatalf("Refuses of %v, %s", wall, text(weights...))
			}
			if count(weights, func(w frac.Rat) bool { return w.Sign() > 0 }) == 3 {
				three++
			}
			factor := must(frac.Make(r.Int63n(20)-4, 1+r.Int63n(9)))
			other := refusals[r.Intn(len(refusals))]
			timed, sum, changed := slices.Clone(weights), slices.Clone(weights), slices.Clone(weights)
			for k, w := range weights {
				timed[k] = must(w.Mul(factor))
				sum[k] = must(w.Add(other[k]))
			}
			changed[r.Intn(len(wall))] = frac.Of(r.Int63n(5) - 1)
			for _, l := range [][]frac.Rat{timed, sum, changed} {
				if got, want := guard.Refuses(wall, l), isRefusal(wall, l); got != want {
					t.Fatalf("Refuses of %v, %s: %t", wall, text(l...), got)
				}
			}
			if i > 20 {
				break
			}
		}
	}
	if three < 100 {
		t.Errorf("only %d refusals have three weights", three)
	}
}

func count[T any](l []T, is func(T) bool) int {
	n := 0
	for _, x := range l {
		if is(x) {
			n++
		}
	}
	return n
}

// refusalsOf is the refusals that there are for any three sides of a wall, none for most.
func refusalsOf(wall []point) [][]frac.Rat {
	n := len(wall)
	way := func(i int) point { return minus(wall[(i+1)%n], wall[i]) }
	var out [][]frac.Rat
	for _, t := range allTriples(n) {
		for _, sign := range []int64{1, -1} {
			weights := make([]frac.Rat, n)
			for i := range t {
				weights[t[i]] = frac.Of(sign * cross(way(t[(i+1)%3]), way(t[(i+2)%3])))
			}
			if isRefusal(wall, weights) {
				out = append(out, weights)
			}
		}
	}
	return out
}

// P7.4 and P7.6: a wall whose kernel only three sides refuse.
func TestRefuseThree(t *testing.T) {
	isChecked(t, windmill())
	weights, ok := guard.Refuse(windmill())
	if !ok || count(weights, func(w frac.Rat) bool { return w.Sign() > 0 }) != 3 || !isRefusal(windmill(), weights) {
		t.Errorf("Refuse: %s, %t", text(weights...), ok)
	}
	for s, want := range map[string]bool{"0 0 0 3 0 1 2": true, "0 0 0 1/2 0 1/6 1/3": true, "0 0 0 3 0 1 1": false, "0 0 0 3 0 1 0": false, "0 0 0 -3 0 -1 -2": false} {
		if got := guard.Refuses(windmill(), numbers(s)); got != want {
			t.Errorf("Refuses of %s: %t", s, got)
		}
	}
}

// P7.4: the second example's refusal.
func TestRefuseExample(t *testing.T) {
	weights, ok := guard.Refuse(tower())
	if !ok || !isRefusal(tower(), weights) || !guard.Refuses(tower(), weights) {
		t.Errorf("Refuse: %s, %t", text(weights...), ok)
	}
	for _, wall := range [][]point{square(), corner(), step(), points("2 1, 3 3, 2 3, 2 2, 1 3, 1 0, 3 0")} {
		if weights, ok := guard.Refuse(wall); ok || len(weights) > 0 {
			t.Errorf("Refuse of %v: %s, %t", wall, text(weights...), ok)
		}
	}
}

// P7.4: points of the kernel, and others.
func TestInKernelExamples(t *testing.T) {
	for _, x := range []struct {
		wall []point
		p    string
		want bool
	}{
		{square(), "0 0", true}, {square(), "4 4", true}, {square(), "4 0", true}, {square(), "1/3 4", true}, {square(), "1/3 13/3", false}, {square(), "-1/3 2", false},
		{corner(), "4 2", true}, {corner(), "5 1", true}, {corner(), "5 2", true}, {corner(), "3 1", false}, {corner(), "5 3", false}, {corner(), "5 -1/100", false},
		{corner(), "4 201/100", false}, {corner(), "399/100 2", false},
		{step(), "2 2", true}, {step(), "3 2", true}, {step(), "4 2", true}, {step(), "3 201/100", false}, {step(), "3 199/100", false}, {step(), "5 2", false},
		{tower(), "3 1", false}, {tower(), "1 1", false}, {tower(), "4 2", false},
		{points("1 1, 3 2, 1 2, 3 3, 0 2, 0 1, 2 0, 3 0"), "0 3/2", true},
		{points("1 1, 3 2, 1 2, 3 3, 0 2, 0 1, 2 0, 3 0"), "1/10 3/2", false},
		{square(), "2 1" + zeros(400), false}, {square(), "-1" + zeros(400) + " 2", false},
		{square(), "1/1" + zeros(999) + " 2", true}, {square(), "2 -1/1" + zeros(999), false},
		{square(), "4 4" + zeros(998) + "1/1" + zeros(998), false}, {square(), "4 3" + strings.Repeat("9", 999) + "/1" + zeros(999), true},
	} {
		p := numbers(x.p)
		got, e := guard.InKernel(x.wall, p[0], p[1])
		if got != x.want || e != api.OK {
			t.Errorf("InKernel of %.30s in %v: %t, %d, not %t", x.p, x.wall, got, e, x.want)
		}
	}
}

// P7.4: numbers with 1000 digits, and with more.
func TestInKernelLong(t *testing.T) {
	nines := strings.Repeat("9", 1000)
	for _, s := range []string{nines, "-" + nines, "1/" + nines, "-1/" + nines, nines + "/1" + zeros(999), "-" + nines + "/1" + zeros(999)} {
		long := numbers(s)[0]
		for _, p := range [][2]frac.Rat{{long, frac.Of(1)}, {frac.Of(1), long}, {long, long}} {
			want := onLeft(square(), toBigPoint(p))
			if got, e := guard.InKernel(square(), p[0], p[1]); got != want || e != api.OK {
				t.Errorf("InKernel of %.30s: %t, %d", outline([][2]frac.Rat{p}), got, e)
			}
		}
	}
	for _, s := range []string{"1" + zeros(1000), "-1" + zeros(1000), "1/1" + zeros(1000), "-1/1" + zeros(1000), "1" + zeros(1000) + "/9", nines + "9", nines + "/" + "1" + zeros(1000), "1" + zeros(30000)} {
		long := numbers(s)[0]
		for _, p := range [][2]frac.Rat{{long, frac.Of(1)}, {frac.Of(1), long}, {long, long}, {long, frac.Of(9)}} {
			fails(t, "InKernel", api.ErrArg, results(guard.InKernel(square(), p[0], p[1]))...)
			fails(t, "InKernel", api.ErrArg, results(guard.InKernel(tower(), p[0], p[1]))...)
		}
	}
}

// P7.4: numbers of different lengths together do not become too large.
func TestInKernelBoth(t *testing.T) {
	x := numbers(strings.Repeat("7", 999) + "8/" + strings.Repeat("9", 1000))[0]
	y := numbers(strings.Repeat("5", 999) + "3/1" + zeros(999))[0]
	wall := []point{{-limit, -limit}, {limit, -limit}, {limit, limit - 1}, {-limit, limit}}
	for _, p := range [][2]frac.Rat{{x, y}, {y, x}, {x.Neg(), y}, {x, y.Neg()}} {
		if got, e := guard.InKernel(wall, p[0], p[1]); !got || e != api.OK || !onLeft(wall, toBigPoint(p)) {
			t.Errorf("InKernel: %t, %d", got, e)
		}
	}
	a, b := strings.Repeat("9", 1000), "1"+zeros(999)
	weights := with(make([]frac.Rat, 7), 3, a+"/"+b, 5, "10/"+a, 6, "1/"+strings.Repeat("8", 999)+"9")
	if guard.Refuses(windmill(), weights) != isRefusal(windmill(), weights) {
		t.Error("Refuses of weights of different lengths")
	}
}

// P7.4: all points around a wall, and those between, by the definition.
func TestInKernelAll(t *testing.T) {
	r := rand.New(rand.NewSource(5))
	for _, wall := range someWalls(300) {
		var all [][2]frac.Rat
		for _, p := range grid(wall) {
			all = append(all, [2]frac.Rat{frac.Of(p[0]), frac.Of(p[1])})
		}
		for range 30 {
			x, y := must(frac.Make(r.Int63n(60)-10, 1+r.Int63n(6))), must(frac.Make(r.Int63n(60)-10, 1+r.Int63n(6)))
			all = append(all, [2]frac.Rat{x, y})
		}
		corners, _ := guard.Kernel(wall)
		for i, p := range corners {
			q := corners[(i+1)%len(corners)]
			half := numbers("1/2")[0]
			all = append(all, p, [2]frac.Rat{must(half.Mul(must(p[0].Add(q[0])))), must(half.Mul(must(p[1].Add(q[1]))))})
			all = append(all, [2]frac.Rat{p[0], must(p[1].Add(numbers("1/1" + zeros(50))[0]))})
		}
		for _, p := range all {
			want := onLeft(wall, toBigPoint(p))
			if got, e := guard.InKernel(wall, p[0], p[1]); got != want || e != api.OK {
				t.Fatalf("InKernel of %s in %v: %t, %d", text(p[:]...), wall, got, e)
			}
		}
	}
}

// R4: arguments stay as they are, nothing beyond their length is read, and results are new memory.
func TestKernelMemory(t *testing.T) {
	beyond := append(tower(), point{limit + 1, 0}, point{7, 7})
	weights := numbers("0 0 0 1 0 1 0 0 5")
	before := fmt.Sprint(beyond, weights)
	if !guard.Refuses(beyond[:8], weights[:8]) || guard.Refuses(beyond[:8], weights) {
		t.Error("Refuses beyond the length")
	}
	first, ok := guard.Refuse(beyond[:8])
	kept := text(first...)
	clear(first)
	again, _ := guard.Refuse(beyond[:8])
	if !ok || text(again...) != kept || fmt.Sprint(beyond, weights) != before {
		t.Errorf("Refuse: %s, then %s", kept, text(again...))
	}
	wall := append(corner(), point{9, 9})
	one, _ := guard.Kernel(wall[:6])
	clear(one)
	two, _ := guard.Kernel(wall[:6])
	if outline(two) != "4 0, 6 0, 6 2, 4 2" || fmt.Sprint(wall) != fmt.Sprint(append(corner(), point{9, 9})) {
		t.Errorf("Kernel: %s", outline(two))
	}
}
