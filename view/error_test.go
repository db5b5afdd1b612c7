package view_test

import (
	"fmt"
	"math/big"
	"reflect"
	"strings"
	"testing"

	"rabbet/api"
	"rabbet/frac"
	"rabbet/view"
)

// call is a function of the package with good arguments, each of which can be replaced.
type call struct {
	name string
	good []any
	do   func(a []any) []any // the results, the error last
}

func results(l ...any) []any {
	return l
}

func point(x any) view.Triple {
	return x.(view.Triple)
}

func points(l []any) []view.Triple {
	var out []view.Triple
	for _, x := range l {
		out = append(out, point(x))
	}
	return out
}

// given is a list of arguments: triples of a string, or others.
func given(l ...any) []any {
	var out []any
	for _, x := range l {
		if s, ok := x.(string); ok {
			for _, p := range triples(s) {
				out = append(out, p)
			}
		} else {
			out = append(out, x)
		}
	}
	return out
}

// calls is all functions of the package.
func calls() []call {
	m := matrix("1 2 0  0 1 1  1 0 1")
	n := matrix("0 0 1  1 0 0  0 2 0")
	c := conic("1 1 -1 0 0 0")
	return []call{
		{"Normal", given("2 4 6"), func(a []any) []any { return results(view.Normal(point(a[0]))) }},
		{"On", given("1 1 1, 1 -1 0"), func(a []any) []any { return results(view.On(point(a[0]), point(a[1]))) }},
		{"Join", given("1 0 0, 0 1 0"), func(a []any) []any { return results(view.Join(point(a[0]), point(a[1]))) }},
		{"Ratio", given("1 0 0, 0 1 0, 1 1 0, 1 2 0"), func(a []any) []any {
			return results(view.Ratio(point(a[0]), point(a[1]), point(a[2]), point(a[3])))
		}},
		{"Fourth", given("1 0 0, 0 1 0, 1 1 0"), func(a []any) []any {
			return results(view.Fourth(point(a[0]), point(a[1]), point(a[2]), frac.Of(2)))
		}},
		{"General", given("1 0 0, 0 1 0, 0 0 1, 1 1 1"), func(a []any) []any { return results(view.General(points(a))) }},
		{"CheckMap", given(m), func(a []any) []any { return results(view.CheckMap(a[0].(view.Map))) }},
		{"FromFour", given("1 0 0, 0 1 0, 0 0 1, 1 1 1", "0 1 0, 1 2 0, 0 0 1, 1 1 1"), func(a []any) []any {
			return results(view.FromFour([4]view.Triple(points(a[:4])), [4]view.Triple(points(a[4:]))))
		}},
		{"Apply", given(m, "1 2 3"), func(a []any) []any { return results(view.Apply(a[0].(view.Map), point(a[1]))) }},
		{"ApplyLine", given(m, "1 2 3"), func(a []any) []any { return results(view.ApplyLine(a[0].(view.Map), point(a[1]))) }},
		{"After", given(m, n), func(a []any) []any { return results(view.After(a[0].(view.Map), a[1].(view.Map))) }},
		{"Back", given(m), func(a []any) []any { return results(view.Back(a[0].(view.Map))) }},
		{"CheckConic", given(c), func(a []any) []any { return results(view.CheckConic(a[0].(view.Conic))) }},
		{"Through", given("1 0 0, 0 1 0, 0 0 1, 1 1 1, 1 2 3"), func(a []any) []any {
			return results(view.Through([5]view.Triple(points(a))))
		}},
		{"OnConic", given(c, "1 0 1"), func(a []any) []any { return results(view.OnConic(a[0].(view.Conic), point(a[1]))) }},
		{"Smooth", given(c), func(a []any) []any { return results(view.Smooth(a[0].(view.Conic))) }},
		{"Polar", given(c, "1 0 1"), func(a []any) []any { return results(view.Polar(a[0].(view.Conic), point(a[1]))) }},
		{"Pole", given(c, "1 0 -1"), func(a []any) []any { return results(view.Pole(a[0].(view.Conic), point(a[1]))) }},
		{"Second", given(c, "1 0 1, 1 1 -1"), func(a []any) []any {
			return results(view.Second(a[0].(view.Conic), point(a[1]), point(a[2])))
		}},
		{"Moved", given(c, m), func(a []any) []any { return results(view.Moved(a[0].(view.Conic), a[1].(view.Map))) }},
		{"Hexagon", given("1 0 1, 0 1 1, 2 0 1, 0 2 1, 3 0 1, 0 4 1"), func(a []any) []any {
			return results(view.Hexagon([6]view.Triple(points(a))))
		}},
	}
}

// fails checks the error of a call, and that all its other results are zero values.
func fails(t *testing.T, c call, a []any, want api.Errno) {
	t.Helper()
	l := c.do(a)
	last := len(l) - 1
	if l[last] != want {
		t.Fatalf("%s of %.200s: %d, not %d", c.name, fmt.Sprint(a), l[last], want)
	}
	for _, x := range l[:last] {
		if want != api.OK && !reflect.ValueOf(x).IsZero() {
			t.Fatalf("%s of %.200s: %.200s next to an error", c.name, fmt.Sprint(a), fmt.Sprint(x))
		}
	}
}

func nines(n int) string {
	return strings.Repeat("9", n)
}

// fault is a bad argument and its error.
type fault struct {
	bad  any
	want api.Errno
}

// faults is bad arguments that may stand where a good one does.
func faults(good any) []fault {
	long := []string{nines(40) + "9", "-1" + strings.Repeat("0", 40), "1/1" + strings.Repeat("0", 40), "-1/" + nines(41), nines(500) + "/1" + strings.Repeat("0", 499)}
	var out []fault
	switch good.(type) {
	case view.Triple:
		out = append(out, fault{triple("0 0 0"), api.ErrPoint})
		for i, x := range long {
			l := []string{"0", "0", "0"}
			l[i%3] = x
			out = append(out, fault{triple(strings.Join(l, " ")), api.ErrSize})
		}
	case view.Conic:
		out = append(out, fault{conic("0 0 0 0 0 0"), api.ErrPoint})
		for i := range 6 {
			l := []string{"0", "0", "0", "0", "0", "0"}
			l[i] = long[i%len(long)]
			out = append(out, fault{conic(strings.Join(l, " ")), api.ErrSize})
		}
	case view.Map:
		for _, m := range []string{"0 0 0  0 0 0  0 0 0", "1 2 3  4 5 6  7 8 9", "1 0 0  0 1 0  0 0 0", "1 1 1  1 1 1  1 1 1", "0 0 0  0 0 " + nines(40) + "  0 0 0"} {
			out = append(out, fault{matrix(m), api.ErrPoint})
		}
		for i := range 9 { // with a determinant of 0, which is looked at later, and without
			l := strings.Fields("0 0 0 0 0 0 0 0 0")
			l[i] = long[i%len(long)]
			out = append(out, fault{matrix(strings.Join(l, " ")), api.ErrSize})
			l = strings.Fields("1 0 0 0 1 0 0 0 1")
			l[i] = long[i%len(long)]
			out = append(out, fault{matrix(strings.Join(l, " ")), api.ErrSize})
		}
	}
	return out
}

// with is the arguments with one replaced.
func with(a []any, i int, x any) []any {
	out := append([]any(nil), a...)
	out[i] = x
	return out
}

// P6.1: each function looks at each argument, in their order.
func TestErrors(t *testing.T) {
	for _, c := range calls() {
		fails(t, c, c.good, api.OK)
		for i, good := range c.good {
			for _, f := range faults(good) {
				a := with(c.good, i, f.bad)
				fails(t, c, a, f.want)
				for j := i + 1; j < len(a); j++ { // what is wrong with later arguments, even if it is named first, does not matter
					for _, g := range faults(c.good[j]) {
						fails(t, c, with(a, j, g.bad), f.want)
					}
				}
			}
		}
	}
}

// P6.1: what is wrong with an argument comes before ErrFlat.
func TestErrorsBeforeFlat(t *testing.T) {
	for _, c := range calls() {
		switch c.name {
		case "Join", "Ratio", "Fourth", "FromFour", "Through", "Hexagon": // all points the same
			for i := range c.good {
				for _, f := range faults(c.good[0]) {
					a := append([]any(nil), c.good...)
					for j := range a {
						a[j] = c.good[0]
					}
					fails(t, c, a, api.ErrFlat)
					fails(t, c, with(a, i, f.bad), f.want)
				}
			}
		case "Polar", "Pole", "Second": // a conic that is not smooth, with the point 1, 0, 0 on all of its lines
			a := with(with(c.good, 0, conic("0 1 0 0 0 0")), 1, triple("1 0 0"))
			fails(t, c, a, api.ErrFlat)
			for i := 1; i < len(a); i++ {
				for _, f := range faults(a[i]) {
					fails(t, c, with(a, i, f.bad), f.want)
				}
			}
		}
	}
}

// longNumbers is a source of fractions with 40 digits above and 40 below.
func longNumbers() func() frac.Rat {
	limit := new(big.Int).Exp(big.NewInt(10), big.NewInt(40), nil)
	next := int64(0)
	return func() frac.Rat {
		for {
			next++
			above := new(big.Int).Sub(limit, big.NewInt(next))
			below := new(big.Int).Sub(limit, big.NewInt(next*next+1))
			r := new(big.Rat).SetFrac(above, below)
			if len(r.Num().String()) == 40 && len(r.Denom().String()) == 40 {
				return fromBig(r.Mul(r, big.NewRat(1-next%2*2, 1)))
			}
		}
	}
}

// P6.1: 40 digits are not too many, above and below, and no result is too large.
func TestLongNumbers(t *testing.T) {
	number := longNumbers()
	for _, c := range calls() {
		for range 10 {
			var a []any
			for _, good := range c.good {
				switch good.(type) {
				case view.Triple:
					a = append(a, view.Triple{number(), number(), number()})
				case view.Conic:
					a = append(a, view.Conic{number(), number(), number(), number(), number(), number()})
				case view.Map:
					a = append(a, view.Map{{number(), number(), number()}, {number(), number(), number()}, {number(), number(), number()}})
				}
			}
			want := api.OK
			switch c.name { // which need special positions
			case "Ratio", "Fourth", "Second", "Hexagon":
				want = api.ErrFlat
			}
			fails(t, c, a, want)
		}
	}
}

// timesAll is an argument, each of its numbers times a number.
func timesAll(x any, factor frac.Rat) any {
	scale := func(l []frac.Rat) []frac.Rat {
		out := make([]frac.Rat, len(l))
		for i, r := range l {
			out[i] = must(r.Mul(factor))
		}
		return out
	}
	switch x := x.(type) {
	case view.Triple:
		return view.Triple(scale(x[:]))
	case view.Conic:
		return view.Conic(scale(x[:]))
	case view.Map:
		return view.Map{[3]frac.Rat(scale(x[0][:])), [3]frac.Rat(scale(x[1][:])), [3]frac.Rat(scale(x[2][:]))}
	}
	return nil
}

// P6.1: it does not matter by which numbers of 40 digits the arguments are multiplied.
func TestMultiples(t *testing.T) {
	for _, c := range calls() {
		want := fmt.Sprint(c.do(c.good))
		for i := range 10 {
			var a []any
			for j, good := range c.good {
				above := must(frac.Parse(fmt.Sprintf("-1%039d", 7*i+3)))
				below := must(frac.Parse(fmt.Sprintf("1%039d", j)))
				a = append(a, timesAll(good, must(above.Quo(below))))
			}
			if got := fmt.Sprint(c.do(a)); got != want {
				t.Fatalf("%s of %v: %s, not %s", c.name, a, got, want)
			}
		}
	}
}

// P1: no call fails, however long the numbers are.
func TestHugeNumbers(t *testing.T) {
	huge := must(frac.Parse(nines(30000) + "/" + "1" + strings.Repeat("0", 29999)))
	for _, c := range calls() {
		for i, good := range c.good {
			var bad any
			switch good.(type) {
			case view.Triple:
				bad = view.Triple{huge, huge, huge}
			case view.Conic:
				bad = view.Conic{huge, huge, huge, huge, huge, huge}
			case view.Map:
				bad = view.Map{{huge, huge, huge}, {huge, huge, huge}, {huge, huge, huge}}
			}
			fails(t, c, with(c.good, i, bad), api.ErrSize)
		}
	}
}

// R4: arguments stay as they are.
func TestArgumentsStay(t *testing.T) {
	for _, c := range calls() {
		before := fmt.Sprint(c.good)
		fails(t, c, c.good, api.OK)
		first := fmt.Sprint(c.do(c.good))
		if after := fmt.Sprint(c.good); after != before {
			t.Errorf("%s changes its arguments: %s to %s", c.name, before, after)
		}
		if second := fmt.Sprint(c.do(c.good)); second != first {
			t.Errorf("%s: %s, then %s", c.name, first, second)
		}
	}
	all := triples("1 0 0, 0 1 0, 0 0 1, 0 0 0")
	if ok, e := view.General(all[:3]); !ok || e != api.OK || text(all[3]) != "0 0 0" {
		t.Errorf("General of the first three of four: %t, %d", ok, e)
	}
}
