package span_test

import (
	"math"
	"reflect"
	"slices"
	"testing"

	"rabbet/api"
	"rabbet/frac"
	"rabbet/span"
)

// badLists is lists of points with an error, those with ErrSpan first.
func badLists() (list [][][]int64, long int) {
	list = [][][]int64{
		nil,
		{},
		{nil},
		{{}, {}},
		{{0, 0, 0, 0, 0}},
		{{0, 0}, {0}},
		{{0, 0}, {}},
		{{0}, {0, 0}},
		{{0, 0, 0, 0}, {0, 0, 0, 0}, {0, 0, 0, 0, 0}},
		{{limit + 1}},
		{{-limit - 1}},
		{{0, 0}, {0, limit + 1}},
		{{0, 0}, {-limit - 1, 0}},
		{{0, math.MaxInt64}, {0, 0}},
		{{0, 0, 0}, {math.MinInt64, 0, 0}},
		slices.Repeat([][]int64{{0, limit + 1}}, 13),
		append(slices.Repeat([][]int64{{0, 0}}, 12), []int64{0}), // 13 points, and one of them bad
		append(slices.Repeat([][]int64{{0, 0}}, 20), []int64{limit + 1, 0}),
	}
	long = len(list)
	for d := 1; d <= 4; d++ {
		list = append(list, slices.Repeat([][]int64{make([]int64, d)}, 13))
	}
	return append(list, some(newRand(1), 1000, 2, limit)), long
}

// faulty calls f with all lists of badLists and their errors.
func faulty(f func(list [][]int64, want api.Errno)) {
	bad, long := badLists()
	for i, list := range bad {
		if i < long {
			f(list, api.ErrSpan)
		} else {
			f(list, api.ErrLong)
		}
	}
}

// P8.1
func TestCheck(t *testing.T) {
	faulty(func(list [][]int64, want api.Errno) {
		if e := span.Check(list); e != want {
			t.Errorf("Check of %v: %d, not %d", list, e, want)
		}
	})
	r := newRand(2)
	for n := 1; n <= 12; n++ {
		for d := 1; d <= 4; d++ {
			list := some(r, n, d, limit)
			list[0][0], list[n-1][d-1] = limit, -limit
			if e := span.Check(list); e != api.OK {
				t.Errorf("Check of %v: %d", list, e)
			}
		}
	}
}

// badHalves is half-spaces with ErrSpan.
func badHalves() []span.Half {
	return []span.Half{
		{},
		{Normal: []frac.Rat{}, Least: frac.Of(1)},
		half("1 2 3 4 5 6"),
		half("1000000 0"),
		half("-1000000 0"),
		half("0 1000000"),
		half("0 0 0 0 -1000000"),
		half("1/1000000 0"),
		half("1 -1/1000000"),
		half("0 0 0 1/1000000 0"),
		half("1234567/2 1"),
		half(nines(40) + " 1"),
	}
}

// P8.1
func TestCheckHalf(t *testing.T) {
	for _, h := range badHalves() {
		if e := span.CheckHalf(h); e != api.ErrSpan {
			t.Errorf("CheckHalf of %s: %d", textOfHalf(h), e)
		}
	}
	for _, s := range []string{"0 0", "999999 -999999", "-999999 999999", "1/999999 -1/999999", "0 0 0 0 0", "-999999/999998 999998/999999 -999999 1/999999 999999/999998"} {
		if e := span.CheckHalf(half(s)); e != api.OK {
			t.Errorf("CheckHalf of %s: %d", s, e)
		}
	}
}

// results returns the results of a call but the error, which comes last; next to an error they must be zero values.
func results(t *testing.T, name string, want api.Errno, l ...any) {
	t.Helper()
	last := len(l) - 1
	if l[last] != want {
		t.Fatalf("%s: %d, not %d", name, l[last], want)
	}
	for _, x := range l[:last] {
		if want != api.OK && !reflect.ValueOf(x).IsZero() {
			t.Fatalf("%s: %v next to an error", name, x)
		}
	}
}

func values(l ...any) []any {
	return l
}

// listCalls is the functions that take a list of points alone.
func listCalls() map[string]func(list [][]int64) []any {
	return map[string]func(list [][]int64) []any{
		"Radon":    func(list [][]int64) []any { return values(span.Radon(list)) },
		"Tverberg": func(list [][]int64) []any { return values(span.Tverberg(list)) },
		"Centre":   func(list [][]int64) []any { return values(span.Centre(list)) },
	}
}

// pointCalls is the functions that take a list of points and a point of integers.
func pointCalls() map[string]func(list [][]int64, p []int64) []any {
	return map[string]func(list [][]int64, p []int64) []any{
		"In":   func(list [][]int64, p []int64) []any { return values(span.In(list, p)) },
		"Wall": func(list [][]int64, p []int64) []any { return values(span.Wall(list, p)) },
	}
}

// twoCalls is the functions that take two lists of points.
func twoCalls() map[string]func(a, b [][]int64) []any {
	return map[string]func(a, b [][]int64) []any{
		"Common":  func(a, b [][]int64) []any { return values(span.Common(a, b)) },
		"Between": func(a, b [][]int64) []any { return values(span.Between(a, b)) },
	}
}

// P8.1: what Check returns is first.
func TestListErrors(t *testing.T) {
	faulty(func(list [][]int64, want api.Errno) {
		for name, call := range listCalls() {
			results(t, name, want, call(list)...)
		}
	})
}

// P8.1: the list's errors, then the dimension of the point, then its range.
func TestPointErrors(t *testing.T) {
	for name, call := range pointCalls() {
		faulty(func(list [][]int64, want api.Errno) {
			for _, p := range [][]int64{nil, {0}, {0, 0}, {limit + 1, 0}, {0, 0, 0, 0, 0}, {math.MinInt64}} {
				results(t, name, want, call(list, p)...)
			}
		})
		for d := 1; d <= 4; d++ {
			list := some(newRand(int64(d)), 12, d, limit)
			for n := range 7 {
				p := make([]int64, n)
				if n == d {
					results(t, name, api.OK, call(list, p)...)
					continue
				}
				results(t, name, api.ErrShape, call(list, p)...)
				for i := range p {
					p[i] = limit + 1
				}
				results(t, name, api.ErrShape, call(list, p)...)
			}
			for i := range d {
				for _, x := range []int64{limit + 1, -limit - 1, math.MaxInt64, math.MinInt64} {
					p := make([]int64, d)
					p[i] = x
					results(t, name, api.ErrSpan, call(list, p)...)
				}
				for _, x := range []int64{limit, -limit} {
					p := make([]int64, d)
					p[i] = x
					results(t, name, api.OK, call(list, p)...)
				}
			}
		}
	}
}

// P8.1: the errors of the first list, then those of the second one, then the dimensions.
func TestTwoErrors(t *testing.T) {
	for name, call := range twoCalls() {
		faulty(func(list [][]int64, want api.Errno) {
			for _, good := range []string{"0", "0 0, 1 1", "1 2 3"} {
				results(t, name, want, call(list, points(good))...)
				results(t, name, want, call(points(good), list)...)
			}
			faulty(func(other [][]int64, _ api.Errno) {
				results(t, name, want, call(list, other)...)
			})
		})
		for d := 1; d <= 4; d++ {
			for c := 1; c <= 4; c++ {
				want := api.ErrShape
				if c == d {
					want = api.OK
				}
				r := newRand(int64(c))
				results(t, name, want, call(some(r, 12, d, limit), some(r, 12, c, limit))...)
			}
		}
	}
}

// P8.4, P8.6: after the list's errors, its dimension and its length.
func TestShapeErrors(t *testing.T) {
	r := newRand(3)
	for d := 1; d <= 4; d++ {
		for n := 1; n <= 12; n++ {
			list := some(r, n, d, limit)
			for name, good := range map[string]bool{"Radon": n == d+2, "Tverberg": d == 2 && n == 7, "Centre": d == 2} {
				want := api.ErrShape
				if good {
					want = api.OK
				}
				results(t, name, want, listCalls()[name](list)...)
			}
		}
	}
}

// P8.1, P8.6: the list's errors, then its dimension, then that of the point, then its digits.
func TestDepthErrors(t *testing.T) {
	depth := func(want api.Errno, list [][]int64, p string) {
		t.Helper()
		results(t, "Depth of "+p, want, values(span.Depth(list, numbers(p)))...)
	}
	faulty(func(list [][]int64, want api.Errno) {
		for _, p := range []string{"", "0 0", "0 0 0", nines(61) + " 0"} {
			depth(want, list, p)
		}
	})
	for _, list := range []string{"0", "0, 1", "1 2 3", "1 2 3 4, 5 6 7 8"} {
		for _, p := range []string{"", "0", "0 0", "0 0 0", "0 0 0 0", nines(61) + " 0", "0 1/1" + nines(61)} {
			depth(api.ErrShape, points(list), p)
		}
	}
	for _, p := range []string{"", "0", "0 0 0", "0 0 0 0", nines(61), "0 0 1/1" + nines(61)} {
		depth(api.ErrShape, points("0 0, 1 1"), p)
	}
	for _, p := range []string{nines(61) + " 0", "0 -" + nines(61), "1/1" + nines(60) + " 0", "0 " + nines(61) + "/2", "-2/" + nines(61) + " " + nines(1001)} {
		depth(api.ErrSpan, points("0 0, 1 1"), p)
	}
	for _, p := range []string{"0 0", nines(60) + " -" + nines(60), "-1/" + nines(60) + " 1" + nines(59) + "/" + nines(60), "1000001 -1000001"} {
		depth(api.OK, points("0 0, 1 1"), p)
	}
}

// halfCalls is the functions that take half-spaces and return an error.
func halfCalls() map[string]func(list []span.Half) []any {
	return map[string]func(list []span.Half) []any{
		"Helly":  func(list []span.Half) []any { return values(span.Helly(list)) },
		"Refuse": func(list []span.Half) []any { return values(span.Refuse(list)) },
		"InAll": func(list []span.Half) []any {
			d := 1
			if len(list) > 0 {
				d = len(list[0].Normal)
			}
			return values(span.InAll(list, make([]frac.Rat, d)))
		},
		"InAll of a point that is wrong, too": func(list []span.Half) []any {
			return values(span.InAll(list, numbers("0 0 0 0 0 "+nines(1001))))
		},
	}
}

// P8.5: ErrNone, ErrLong, then half-space by half-space.
func TestHalfErrors(t *testing.T) {
	check := func(want api.Errno, list []span.Half) {
		t.Helper()
		for name, call := range halfCalls() {
			results(t, name+": "+textOfHalves(list), want, call(list)...)
		}
		for n := range 15 {
			if span.Refuses(list, slices.Repeat(numbers("1"), n)) {
				t.Fatalf("Refuses of %s: true", textOfHalves(list))
			}
		}
	}
	check(api.ErrNone, nil)
	check(api.ErrNone, []span.Half{})
	good, other := half("1 1 1"), half("1 1")
	check(api.ErrLong, slices.Repeat([]span.Half{good}, 13))
	check(api.ErrLong, slices.Repeat([]span.Half{other}, 100))
	for _, bad := range badHalves() {
		check(api.ErrLong, slices.Repeat([]span.Half{bad}, 13))
		check(api.ErrSpan, []span.Half{bad})
		check(api.ErrSpan, append(slices.Repeat([]span.Half{good}, 11), bad))
		check(api.ErrSpan, []span.Half{bad, good, other})
		check(api.ErrSpan, []span.Half{good, bad, other})
		check(api.ErrShape, []span.Half{good, other, bad})
		check(api.ErrShape, []span.Half{other, other, good, bad})
	}
	check(api.ErrShape, append(slices.Repeat([]span.Half{good}, 11), other))
	check(api.ErrShape, []span.Half{half("0 0 0 0 0"), half("0 0 0 0")})
}

// P8.5: the errors of the half-spaces, then the dimension of the point, then its digits.
func TestInAllErrors(t *testing.T) {
	inAll := func(want api.Errno, list, p string) {
		t.Helper()
		results(t, "InAll of "+p, want, values(span.InAll(halves(list), numbers(p)))...)
	}
	for _, p := range []string{"", "0", "0 0 0", "0 0 0 0", nines(1001), "0 0 " + nines(1001)} {
		inAll(api.ErrShape, "1 1 1, 0 0 1", p)
	}
	for _, p := range []string{nines(1001) + " 0", "0 -" + nines(1001), "0 1/1" + nines(1000), nines(1001) + "/2 1"} {
		inAll(api.ErrSpan, "1 1 1, 0 0 1", p)
	}
	for _, p := range []string{"0 0", nines(1000) + " -" + nines(1000), "0 -2/" + nines(1000), "1000001 1000001"} {
		inAll(api.OK, "1 1 1, 0 0 1", p)
	}
}

// P1: calls end and do not panic for whatever sizes.
func TestLargeArguments(t *testing.T) {
	many := slices.Repeat([][]int64{{1, 2}}, 1_000_000)
	wide := [][]int64{make([]int64, 1_000_000)}
	if e := span.Check(many); e != api.ErrLong {
		t.Errorf("Check: %d", e)
	}
	if e := span.Check(wide); e != api.ErrSpan {
		t.Errorf("Check: %d", e)
	}
	huge := must(frac.Parse(nines(30_000)))
	for _, h := range []span.Half{{Normal: []frac.Rat{huge}}, {Normal: make([]frac.Rat, 1), Least: huge}, {Normal: make([]frac.Rat, 1_000_000)}} {
		if e := span.CheckHalf(h); e != api.ErrSpan {
			t.Errorf("CheckHalf: %d", e)
		}
		if span.IsWall(points("0"), points("1"), h) {
			t.Errorf("IsWall")
		}
	}
	if span.Makes(points("0"), []frac.Rat{huge}, []frac.Rat{huge}) || span.IsSplit(points("0"), []int{0}, 1, []frac.Rat{huge}) || span.Refuses(halves("0 1"), []frac.Rat{huge}) {
		t.Errorf("a number of 30000 digits is taken")
	}
	if _, e := span.Depth(points("0 0"), []frac.Rat{huge, huge}); e != api.ErrSpan {
		t.Errorf("Depth: %d", e)
	}
	if _, e := span.InAll(halves("1 1"), []frac.Rat{huge}); e != api.ErrSpan {
		t.Errorf("InAll: %d", e)
	}
}
