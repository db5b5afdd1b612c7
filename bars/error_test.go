package bars_test

import (
	"math"
	"reflect"
	"slices"
	"testing"

	"rabbet/api"
	"rabbet/bars"
	"rabbet/shape"
)

// noComplexes is lists that are no complex, with their errors.
func noComplexes() map[api.Errno][][][]int {
	twenty := grown(newRand(1), nil, 20, 16, 1, 4)
	return map[api.Errno][][][]int{
		api.ErrComplex: {
			nil,
			{},
			{nil},
			{{0, 1}, {}},
			{{-1}},
			{{16}},
			{{0, math.MaxInt}},
			{{math.MinInt, 0}},
			{{1, 0}},
			{{1, 1}},
			{{0, 1, 2, 3, 4}},
			{{0, 1}, {0, 1}},
			slices.Repeat([][]int{{7}}, 20),
		},
		api.ErrLong: {
			grown(newRand(2), nil, 21, 16, 1, 4),
			append(slices.Clone(twenty), twenty[0]),
			append(slices.Clone(twenty), nil),
			append(slices.Clone(twenty), []int{16}),
			make([][]int, 1000),
		},
	}
}

// shadeCalls is the functions that take a complex with shades, with other arguments that are right.
func shadeCalls() map[string]func(c [][]int, shades []int) []any {
	return map[string]func(c [][]int, shades []int) []any{
		"Check":  func(c [][]int, shades []int) []any { return values(bars.Check(c, shades)) },
		"Levels": func(c [][]int, shades []int) []any { return values(bars.Levels(c, shades)) },
		"Rank":   func(c [][]int, shades []int) []any { return values(bars.Rank(c, shades, 3, 1, -5, 5)) },
		"Bars":   func(c [][]int, shades []int) []any { return values(bars.Bars(c, shades, 7)) },
	}
}

// wrongCalls is those of them that have arguments that may be wrong, with wrong ones.
func wrongCalls() map[string]func(c [][]int, shades []int) []any {
	return map[string]func(c [][]int, shades []int) []any{
		"Rank, wrong prime":     func(c [][]int, shades []int) []any { return values(bars.Rank(c, shades, 4, 1, -5, 5)) },
		"Rank, wrong dimension": func(c [][]int, shades []int) []any { return values(bars.Rank(c, shades, 3, 5, -5, 5)) },
		"Rank, wrong levels":    func(c [][]int, shades []int) []any { return values(bars.Rank(c, shades, 3, 1, 5, -5)) },
		"Bars, wrong prime":     func(c [][]int, shades []int) []any { return values(bars.Bars(c, shades, 0)) },
	}
}

// P10.1: what is wrong with a complex comes first, whatever else is wrong.
func TestNoComplex(t *testing.T) {
	for want, list := range noComplexes() {
		for _, c := range list {
			if e := shape.Check(c); e != want {
				t.Fatalf("shape.Check of %v: %d", c, e)
			}
			for _, n := range []int{0, 1, 2, 15, 16, 17, 40} {
				for _, s := range []int{0, million, million + 1, math.MinInt} {
					shades := slices.Repeat([]int{s}, n)
					for name, call := range shadeCalls() {
						expect(t, name, want, call(c, shades))
					}
					for name, call := range wrongCalls() {
						expect(t, name, want, call(c, shades))
					}
				}
			}
		}
	}
}

// P10.1: then the number of shades, then their range.
func TestNoShades(t *testing.T) {
	for _, s := range []string{"0", "f", "01 12 03", "3", "0f 1 2", plane, "0123 7 4"} {
		c := lists(s)
		want := len(vertices(c))
		for n := range 40 {
			for _, one := range []int{0, million, million + 1} {
				if n == want {
					continue
				}
				shades := slices.Repeat([]int{one}, n)
				for name, call := range shadeCalls() {
					expect(t, name+" of "+s, api.ErrShape, call(c, shades))
				}
				for name, call := range wrongCalls() {
					expect(t, name+" of "+s, api.ErrShape, call(c, shades))
				}
			}
		}
		for v := range want {
			for one, e := range map[int]api.Errno{million: api.OK, -million: api.OK, million + 1: api.ErrArg, -million - 1: api.ErrArg, math.MaxInt: api.ErrArg, math.MinInt: api.ErrArg} {
				shades := make([]int, want)
				shades[v] = one
				for name, call := range shadeCalls() {
					expect(t, name+" of "+s, e, call(c, shades))
				}
				for name, call := range wrongCalls() {
					expect(t, name+" of "+s, api.ErrArg, call(c, shades))
				}
			}
		}
	}
}

// P10.1: then the prime, the dimension, and the order of levels.
func TestNoPrime(t *testing.T) {
	c := lists(plane)
	shades := numbers("0 1 2 3 4 5")
	primes := map[int]bool{2: true, 3: true, 5: true, 7: true}
	for _, p := range append(numbers("-7 -5 -3 -2 -1 0 1 2 3 4 5 6 7 8 9 10 11 12 13 14 15 17 19 21 25 49"), math.MaxInt, math.MinInt, 1<<32+2, 1<<8+2) {
		want := api.ErrArg
		if primes[p] {
			want = api.OK
		}
		expect(t, "Bars", want, values(bars.Bars(c, shades, p)))
		for k := -2; k <= 7; k++ {
			for _, levels := range [][2]int{{0, 0}, {0, 5}, {math.MinInt, math.MaxInt}, {math.MaxInt, math.MaxInt}, {1, 0}, {math.MaxInt, math.MinInt}} {
				want := api.ErrArg
				if primes[p] && k >= 0 && k <= 4 && levels[0] <= levels[1] {
					want = api.OK
				}
				expect(t, "Rank", want, values(bars.Rank(c, shades, p, k, levels[0], levels[1])))
			}
		}
	}
	for _, k := range []int{math.MinInt, math.MaxInt, 1 << 32} {
		expect(t, "Rank", api.ErrArg, values(bars.Rank(c, shades, 2, k, 0, 5)))
	}
}

// noBars is lists that are not lists of bars, with their errors.
func noBars() map[api.Errno][][]bars.Bar {
	var wrong [][]bars.Bar
	for _, b := range []bars.Bar{
		{},
		{Birth: 5, Death: 5},
		{Birth: 5, Death: 4},
		{Birth: 5, Death: 0},
		{Birth: -1, Death: -2},
		{Birth: million, Death: million},
		{Birth: million, Death: million + 1},
		{Birth: million + 1, Death: million + 2},
		{Birth: -million - 1, Death: 0},
		{Birth: math.MinInt, Death: math.MaxInt},
		{Birth: 0, Death: math.MaxInt},
		{Birth: 5, Death: 6, Open: true},
		{Birth: 5, Death: 1, Open: true},
		{Birth: -5, Death: -1, Open: true},
		{Birth: 5, Death: 5, Open: true},
		{Birth: -million - 1, Open: true},
		{Birth: million + 1, Open: true},
		{Birth: math.MinInt, Open: true},
		{Birth: 0, Death: math.MinInt, Open: true},
	} {
		good := parse("0:1..2 0:3..")
		wrong = append(wrong, []bars.Bar{b}, append(slices.Clone(good), b), append([]bars.Bar{b}, good...), append(slices.Repeat(good, 149), good[0], b))
	}
	return map[api.Errno][][]bars.Bar{
		api.ErrBars: wrong,
		api.ErrLong: {
			slices.Repeat(parse("0:1..2"), 301),
			slices.Repeat(parse("0:0.."), 1000),
			make([]bars.Bar, 301),
			append(slices.Repeat(parse("0:1..2"), 300), bars.Bar{}),
			append([]bars.Bar{{}}, slices.Repeat(parse("0:1..2"), 300)...),
		},
	}
}

// goodBars is lists of bars.
func goodBars() [][]bars.Bar {
	return [][]bars.Bar{
		nil,
		{},
		parse("0:0.."),
		parse("0:0..1"),
		parse("3:-1000000..1000000 4:999999..1000000 -7:-1000000..-999999 0:1000000.. 0:-1000000.. 99:-5..0"),
		{{Dim: math.MaxInt, Open: true}, {Dim: math.MinInt, Birth: 1, Death: 2}},
		slices.Repeat(parse("0:1..2"), 300),
		some(newRand(3), 300, 1000, 100, 50),
	}
}

// P10.2
func TestCheckBars(t *testing.T) {
	for want, list := range noBars() {
		for _, l := range list {
			if e := bars.CheckBars(l); e != want {
				t.Errorf("CheckBars of %s: %d, not %d", written(l), e, want)
			}
		}
	}
	for _, l := range goodBars() {
		if e := bars.CheckBars(l); e != api.OK {
			t.Errorf("CheckBars of %s: %d", written(l), e)
		}
	}
}

// pairCalls is the functions that take two lists of bars.
func pairCalls() map[string]func(a, b []bars.Bar, h int) []any {
	return map[string]func(a, b []bars.Bar, h int) []any{
		"Pair":  func(a, b []bars.Bar, h int) []any { return values(bars.Pair(a, b, h)) },
		"Alone": func(a, b []bars.Bar, h int) []any { return values(bars.Alone(a, b, h)) },
	}
}

// wrongHalves is numbers that are no h.
func wrongHalves() []int {
	return []int{-1, 10*million + 1, math.MaxInt, math.MinInt}
}

// refused fails if a call with these arguments does not have this error, or if a list of any length is a pairing or a crowd.
func refused(t *testing.T, a, b []bars.Bar, h int, want api.Errno) {
	t.Helper()
	for name, call := range pairCalls() {
		expect(t, name, want, call(a, b, h))
	}
	for _, one := range []int{-1, 0} {
		if bars.IsPairing(a, b, h, slices.Repeat([]int{one}, len(a))) {
			t.Fatalf("IsPairing of %s and %s within %d", written(a), written(b), h)
		}
	}
	for _, second := range []bool{false, true} {
		for n := range 4 {
			if bars.IsCrowd(a, b, h, bars.Crowd{Second: second, Bars: []int{0, 1, 2}[:n]}) {
				t.Fatalf("IsCrowd of %s and %s within %d", written(a), written(b), h)
			}
		}
	}
}

// P10.2: the first list comes first, then the second one, then h.
func TestNoBars(t *testing.T) {
	for want, list := range noBars() {
		for _, l := range list {
			for _, h := range append(wrongHalves(), 0, 10*million) {
				for _, other := range [][]bars.Bar{nil, parse("0:1..2"), {{}}, make([]bars.Bar, 301)} {
					refused(t, l, other, h, want)
					expect(t, "Distance", want, values(bars.Distance(l, other)))
				}
				for _, good := range [][]bars.Bar{nil, parse("0:1..2"), parse("0:1.. 0:3..")} {
					refused(t, good, l, h, want)
					expect(t, "Distance", want, values(bars.Distance(good, l)))
				}
			}
		}
	}
	for _, a := range goodBars() {
		for _, b := range goodBars() {
			for _, h := range wrongHalves() {
				refused(t, a, b, h, api.ErrArg)
			}
			for _, h := range []int{0, 1, 10 * million} {
				for name, call := range pairCalls() {
					expect(t, name, api.OK, call(a, b, h))
				}
			}
			expect(t, "Distance", api.OK, values(bars.Distance(a, b)))
		}
	}
}

// P10.2: with a wrong h, what would be a pairing or a crowd with a right one is none.
func TestNoHalves(t *testing.T) {
	a, b := parse("0:0..4 0:7.."), parse("0:7..")
	for _, h := range wrongHalves() {
		if bars.IsPairing(nil, nil, h, nil) || bars.IsPairing(b, b, h, []int{0}) || bars.IsPairing(a, b, h, []int{-1, 0}) || bars.IsCrowd(a, nil, h, bars.Crowd{Bars: []int{1}}) {
			t.Errorf("a pairing or a crowd for %d", h)
		}
	}
	if !bars.IsPairing(nil, nil, 10*million, nil) || !bars.IsPairing(b, b, 0, []int{0}) || !bars.IsPairing(a, b, 10*million, []int{-1, 0}) || !bars.IsCrowd(a, nil, 10*million, bars.Crowd{Bars: []int{1}}) {
		t.Error("no pairing or no crowd")
	}
}

// withRoom is a list that has something behind its length.
func withRoom[T any](l []T, more ...T) []T {
	return slices.Concat(l, more)[:len(l)]
}

// R4: arguments are neither changed nor read behind their length.
func TestArgumentsStay(t *testing.T) {
	r := newRand(4)
	for range 50 {
		plain := mixed(r)
		shades := shaded(r, plain)
		var c [][]int
		for _, facet := range plain {
			c = append(c, withRoom(facet, 99, 99))
		}
		c = withRoom(c, []int{98}, nil)
		room := withRoom(shades, 2*million, 0)
		for name, call := range shadeCalls() {
			if x := call(c, room); !reflect.DeepEqual(x, call(plain, shades)) {
				t.Fatalf("%s of %s: %v", name, text(plain), x)
			}
		}
		for i, facet := range c {
			if !slices.Equal(facet[:cap(facet)][:len(facet)+2], append(slices.Clone(plain[i]), 99, 99)) {
				t.Fatalf("a facet of %s has changed: %v", text(plain), facet[:cap(facet)])
			}
		}
		if !slices.Equal(room[:len(shades)+2], append(slices.Clone(shades), 2*million, 0)) || !slices.Equal(c[:len(c)+1][len(c)], []int{98}) {
			t.Fatalf("shades of %s have changed: %v", text(plain), room[:cap(room)])
		}
	}
	for range 50 {
		a, b := some(r, r.Intn(10), 5, 5, 20), some(r, r.Intn(10), 5, 5, 20)
		x, y := withRoom(a, bars.Bar{Dim: 9}), withRoom(b, bars.Bar{Dim: 9})
		for name, call := range pairCalls() {
			if got := call(x, y, 3); !reflect.DeepEqual(got, call(a, b, 3)) {
				t.Fatalf("%s: %v", name, got)
			}
		}
		pairs, _, _ := bars.Pair(x, y, 3)
		crowd, _, _ := bars.Alone(x, y, 3)
		bars.IsPairing(x, y, 3, pairs)
		bars.IsCrowd(x, y, 3, crowd)
		bars.Distance(x, y)
		if !slices.Equal(x[:len(a)+1], append(slices.Clone(a), bars.Bar{Dim: 9})) || !slices.Equal(y[:len(b)+1], append(slices.Clone(b), bars.Bar{Dim: 9})) {
			t.Fatalf("lists of bars have changed: %s, %s", written(x), written(y))
		}
	}
	pairs := withRoom([]int{0, 1}, 7)
	if !bars.IsPairing(parse("0:0.. 0:1.."), parse("0:0.. 0:1.."), 0, pairs) || !slices.Equal(pairs[:3], []int{0, 1, 7}) {
		t.Errorf("IsPairing: %v", pairs[:3])
	}
	list := withRoom([]int{0, 1}, 0)
	if !bars.IsCrowd(parse("0:0.. 0:1.."), nil, 0, bars.Crowd{Bars: list}) || !slices.Equal(list[:3], []int{0, 1, 0}) {
		t.Errorf("IsCrowd: %v", list[:3])
	}
}

// R4: results share no memory with arguments or with other results.
func TestResultsAreNew(t *testing.T) {
	c, shades := lists("01 12 02"), numbers("0 5 1")
	a, b := parse("0:0.. 0:1.. 0:2.."), parse("0:0.. 0:1..")
	levels, list := must(bars.Levels(c, shades)), must(bars.Bars(c, shades, 2))
	pairs, _, _ := bars.Pair(b, b, 0)
	crowd, _, _ := bars.Alone(a, b, 9)
	for i := range levels {
		levels[i] = 77
	}
	for i := range list {
		list[i] = bars.Bar{Dim: 77}
	}
	for i := range pairs {
		pairs[i] = 77
	}
	for i := range crowd.Bars {
		crowd.Bars[i] = 77
	}
	if text(c) != "01 12 02" || !slices.Equal(shades, numbers("0 5 1")) || written(a) != "0:0.. 0:1.. 0:2.." || written(b) != "0:0.. 0:1.." {
		t.Error("a change of a result changes an argument")
	}
	again, _, _ := bars.Alone(a, b, 9)
	other, _, _ := bars.Pair(b, b, 0)
	if !slices.Equal(must(bars.Levels(c, shades)), numbers("0 1 5")) || len(of(must(bars.Bars(c, shades, 2)), 77)) > 0 || slices.Contains(other, 77) || slices.Contains(again.Bars, 77) {
		t.Error("a change of a result changes another one")
	}
}

// R7: the same call has the same result.
func TestSameResults(t *testing.T) {
	r := newRand(5)
	for range 50 {
		c := mixed(r)
		shades := shaded(r, c)
		for name, call := range shadeCalls() {
			want := call(c, shades)
			for range 5 {
				if !reflect.DeepEqual(call(c, shades), want) {
					t.Fatalf("%s of %s is not always the same", name, text(c))
				}
			}
		}
		a := some(r, 20, 5, 5, 20)
		b := near(r, a, 2)
		for name, call := range pairCalls() {
			want := call(a, b, 2)
			for range 5 {
				if !reflect.DeepEqual(call(a, b, 2), want) {
					t.Fatalf("%s of %s and %s is not always the same", name, written(a), written(b))
				}
			}
		}
	}
}

// P1: no call panics, whatever its arguments are.
func TestAnyArguments(t *testing.T) {
	r := newRand(6)
	odd := []int{math.MinInt, -million - 1, -million, -2, -1, 0, 1, 2, 3, 4, 5, 7, 15, 16, million, million + 1, 10 * million, math.MaxInt}
	pick := func() int { return odd[r.Intn(len(odd))] }
	list := func(n int) []int {
		var out []int
		for range r.Intn(n) {
			out = append(out, pick())
		}
		return out
	}
	for range 20000 {
		var c [][]int
		for range r.Intn(4) {
			c = append(c, sortedBy(list(5)))
		}
		shades := list(18)
		if r.Intn(2) == 0 && len(c) > 0 {
			shades = slices.Repeat([]int{pick()}, min(16, max(0, slices.Max(append(c[0], 0))))+1)
		}
		bars.Check(c, shades)
		bars.Levels(c, shades)
		bars.Rank(c, shades, pick(), pick(), pick(), pick())
		bars.Bars(c, shades, pick())
		wild := func() []bars.Bar {
			var out []bars.Bar
			for range r.Intn(5) {
				b := bars.Bar{Dim: pick(), Birth: pick(), Death: pick(), Open: r.Intn(2) == 0}
				if b.Open && r.Intn(4) > 0 {
					b.Death = 0
				}
				out = append(out, b)
			}
			return out
		}
		a, b := wild(), wild()
		bars.CheckBars(a)
		bars.Pair(a, b, pick())
		bars.Alone(a, b, pick())
		bars.Distance(a, b)
		bars.IsPairing(a, b, pick(), list(6))
		bars.IsCrowd(a, b, pick(), bars.Crowd{Second: r.Intn(2) == 0, Bars: list(6)})
	}
}
