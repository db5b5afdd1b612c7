package span_test

import (
	"math/big"
	"math/rand"
	"slices"
	"strconv"
	"strings"
	"testing"

	"rabbet/api"
	"rabbet/frac"
	"rabbet/span"
)

const limit = 1_000_000

// must returns the result of a call that has one.
func must[T any](x T, e api.Errno) T {
	if e != api.OK {
		panic(e)
	}
	return x
}

// points is the points of a string, with commas between them.
func points(s string) [][]int64 {
	var out [][]int64
	for part := range strings.SplitSeq(s, ",") {
		var p []int64
		for _, f := range strings.Fields(part) {
			n, err := strconv.ParseInt(f, 10, 64)
			if err != nil {
				panic(s)
			}
			p = append(p, n)
		}
		out = append(out, p)
	}
	return out
}

// numbers is the fractions of a string with blanks.
func numbers(s string) []frac.Rat {
	var out []frac.Rat
	for _, f := range strings.Fields(s) {
		out = append(out, must(frac.Parse(f)))
	}
	return out
}

// half is the half-space of a string with blanks, Least last.
func half(s string) span.Half {
	l := numbers(s)
	return span.Half{Normal: l[:len(l)-1], Least: l[len(l)-1]}
}

// halves is the half-spaces of a string, with commas between them.
func halves(s string) []span.Half {
	var out []span.Half
	for part := range strings.SplitSeq(s, ",") {
		out = append(out, half(part))
	}
	return out
}

// text is numbers as a string with blanks.
func text(l []frac.Rat) string {
	var out []string
	for _, r := range l {
		out = append(out, r.String())
	}
	return strings.Join(out, " ")
}

func textOfHalf(h span.Half) string {
	return text(h.Normal) + " >= " + h.Least.String()
}

func textOfHalves(list []span.Half) string {
	var out []string
	for _, h := range list {
		out = append(out, textOfHalf(h))
	}
	return strings.Join(out, ", ")
}

func fractions(l []int64) []frac.Rat {
	var out []frac.Rat
	for _, n := range l {
		out = append(out, frac.Of(n))
	}
	return out
}

func nines(n int) string {
	return strings.Repeat("9", n)
}

// digits returns the greatest number of digits in a numerator or a denominator.
func digits(l ...frac.Rat) int {
	most := 0
	for _, r := range l {
		most = max(most, len(strings.TrimPrefix(r.Num().String(), "-")), len(r.Den().String()))
	}
	return most
}

// What follows are the definitions, in numbers of another implementation.

type rat = *big.Rat

func toBig(l []frac.Rat) []rat {
	var out []rat
	for _, r := range l {
		x, _ := new(big.Rat).SetString(r.String())
		out = append(out, x)
	}
	return out
}

func whole(l []int64) []rat {
	var out []rat
	for _, n := range l {
		out = append(out, new(big.Rat).SetInt64(n))
	}
	return out
}

func product(a, b []rat) rat {
	sum := new(big.Rat)
	for i := range a {
		sum.Add(sum, new(big.Rat).Mul(a[i], b[i]))
	}
	return sum
}

// areWeights: none below 0, and their sum is 1.
func areWeights(w []rat) bool {
	sum := new(big.Rat)
	for _, x := range w {
		if x.Sign() < 0 {
			return false
		}
		sum.Add(sum, x)
	}
	return sum.Cmp(big.NewRat(1, 1)) == 0
}

// made is the sum of points, each times its weight.
func made(list [][]int64, w []rat) []rat {
	var out []rat
	for k := range list[0] {
		sum := new(big.Rat)
		for i, p := range list {
			sum.Add(sum, new(big.Rat).Mul(w[i], new(big.Rat).SetInt64(p[k])))
		}
		out = append(out, sum)
	}
	return out
}

func equal(a, b []rat) bool {
	return slices.EqualFunc(a, b, func(x, y rat) bool { return x.Cmp(y) == 0 })
}

func makes(list [][]int64, w, p []frac.Rat) bool {
	return len(w) == len(list) && areWeights(toBig(w)) && equal(made(list, toBig(w)), toBig(p))
}

func inHalf(h span.Half, p []rat) bool {
	return product(toBig(h.Normal), p).Cmp(toBig([]frac.Rat{h.Least})[0]) >= 0
}

func isWall(list, others [][]int64, h span.Half) bool {
	for _, p := range list {
		if !inHalf(h, whole(p)) {
			return false
		}
	}
	for _, p := range others {
		if inHalf(h, whole(p)) {
			return false
		}
	}
	return len(h.Normal) == len(list[0])
}

func used(l []frac.Rat) int {
	n := 0
	for _, r := range l {
		if r.Sign() != 0 {
			n++
		}
	}
	return n
}

func refuses(list []span.Half, weights []frac.Rat) bool {
	d := len(list[0].Normal)
	if len(weights) != len(list) || used(weights) > d+1 {
		return false
	}
	w := toBig(weights)
	if slices.ContainsFunc(w, func(x rat) bool { return x.Sign() < 0 }) {
		return false
	}
	sums := make([]rat, d+1)
	for k := range sums {
		var column []frac.Rat
		for _, h := range list {
			column = append(column, append(slices.Clone(h.Normal), h.Least)[k])
		}
		sums[k] = product(toBig(column), w)
	}
	for _, sum := range sums[:d] {
		if sum.Sign() != 0 {
			return false
		}
	}
	return sums[d].Sign() > 0
}

func inAll(list []span.Half, p []frac.Rat) bool {
	for _, h := range list {
		if !inHalf(h, toBig(p)) {
			return false
		}
	}
	return true
}

// solved returns the only solution of equations, each with its right side last, or false.
func solved(rows [][]rat) ([]rat, bool) {
	n := len(rows[0]) - 1
	done := 0
	for c := range n {
		at := slices.IndexFunc(rows[done:], func(row []rat) bool { return row[c].Sign() != 0 })
		if at < 0 {
			return nil, false
		}
		rows[done], rows[done+at] = rows[done+at], rows[done]
		for i, row := range rows {
			if i == done || row[c].Sign() == 0 {
				continue
			}
			factor := new(big.Rat).Quo(row[c], rows[done][c])
			for k := range row {
				row[k] = new(big.Rat).Sub(row[k], new(big.Rat).Mul(factor, rows[done][k]))
			}
		}
		done++
	}
	var out []rat
	for i, row := range rows {
		if i >= n && row[n].Sign() != 0 {
			return nil, false
		}
		if i < n {
			out = append(out, new(big.Rat).Quo(row[n], row[i]))
		}
	}
	return out, true
}

// inHull tries all lists of points of which there is one way at most to make p (Caratheodory: they are enough).
func inHull(list [][]int64, p []rat) bool {
	for set := 1; set < 1<<len(list); set++ {
		var some [][]int64
		for i, q := range list {
			if set>>i&1 == 1 {
				some = append(some, q)
			}
		}
		if len(some) > len(p)+1 {
			continue
		}
		var rows [][]rat
		for k := range p {
			var row []rat
			for _, q := range some {
				row = append(row, new(big.Rat).SetInt64(q[k]))
			}
			rows = append(rows, append(row, p[k]))
		}
		rows = append(rows, whole(slices.Repeat([]int64{1}, len(some)+1)))
		if w, ok := solved(rows); ok && areWeights(w) {
			return true
		}
	}
	return false
}

func isSplit(list [][]int64, split []int, parts int, centre []frac.Rat) bool {
	if parts < 1 || parts > 12 || len(split) != len(list) || len(centre) != len(list[0]) || digits(centre...) > 60 {
		return false
	}
	for part := range parts {
		var some [][]int64
		for i, n := range split {
			if n < 0 || n > parts {
				return false
			}
			if n == part {
				some = append(some, list[i])
			}
		}
		if len(some) == 0 || !inHull(some, toBig(centre)) {
			return false
		}
	}
	return true
}

// depthOf counts for normals in all ranges between those of half-planes with a point on their edges: sums of two of these, and what is across them.
func depthOf(list [][]int64, at []frac.Rat) int {
	p := toBig(at)
	var ways [][2]rat
	var normals [][2]rat
	for _, q := range list {
		x, y := new(big.Rat).Sub(whole(q)[0], p[0]), new(big.Rat).Sub(whole(q)[1], p[1])
		ways = append(ways, [2]rat{x, y})
		minusX, minusY := new(big.Rat).Neg(x), new(big.Rat).Neg(y)
		normals = append(normals, [2]rat{minusY, x}, [2]rat{y, minusX})
	}
	tried := slices.Concat(ways, normals, [][2]rat{{big.NewRat(1, 1), new(big.Rat)}})
	for _, m := range normals {
		for _, n := range normals {
			tried = append(tried, [2]rat{new(big.Rat).Add(m[0], n[0]), new(big.Rat).Add(m[1], n[1])})
		}
	}
	for _, w := range ways {
		tried = append(tried, [2]rat{new(big.Rat).Neg(w[0]), new(big.Rat).Neg(w[1])})
	}
	least := len(list)
	for _, n := range tried {
		if n[0].Sign() == 0 && n[1].Sign() == 0 {
			continue
		}
		count := 0
		for _, w := range ways {
			if product(n[:], w[:]).Sign() >= 0 {
				count++
			}
		}
		least = min(least, count)
	}
	return least
}

// What follows are points and half-spaces to try.

func newRand(seed int64) *rand.Rand {
	return rand.New(rand.NewSource(seed))
}

// some returns n points of d numbers up to most in absolute value.
func some(r *rand.Rand, n, d int, most int64) [][]int64 {
	var out [][]int64
	for range n {
		var p []int64
		for range d {
			p = append(p, r.Int63n(2*most+1)-most)
		}
		out = append(out, p)
	}
	return out
}

// flat returns n points that are all on one line through small points.
func flat(r *rand.Rand, n, d int) [][]int64 {
	ends := some(r, 2, d, 3)
	var out [][]int64
	for range n {
		k := r.Int63n(7) - 3
		var p []int64
		for i := range d {
			p = append(p, ends[0][i]+k*(ends[1][i]-ends[0][i]))
		}
		out = append(out, p)
	}
	return out
}

// mixed returns n points of a kind that changes with every call: near to each other, often the same, on a line, at the limits, anywhere.
func mixed(r *rand.Rand, n, d int) [][]int64 {
	switch r.Intn(6) {
	case 0:
		return some(r, n, d, 1)
	case 1:
		return some(r, n, d, 3)
	case 2:
		return flat(r, n, d)
	case 3:
		out := some(r, n, d, 1)
		for _, p := range out {
			for i := range p {
				p[i] *= limit
			}
		}
		return out
	case 4:
		return some(r, n, d, 20)
	}
	return some(r, n, d, limit)
}

// eachList calls f with all lists of n points of d numbers from low to high, the points in rising order.
func eachList(n, d int, low, high int64, f func(list [][]int64)) {
	var grid [][]int64
	var fill func(p []int64)
	fill = func(p []int64) {
		if len(p) == d {
			grid = append(grid, slices.Clone(p))
			return
		}
		for x := low; x <= high; x++ {
			fill(append(p, x))
		}
	}
	fill(nil)
	var choose func(list [][]int64, from int)
	choose = func(list [][]int64, from int) {
		if len(list) == n {
			f(slices.Clone(list))
			return
		}
		for i := from; i < len(grid); i++ {
			choose(append(list, grid[i]), i)
		}
	}
	choose(nil, 0)
}

// small returns a fraction with few digits.
func small(r *rand.Rand, most int64) frac.Rat {
	return must(frac.Make(r.Int63n(2*most+1)-most, 1+r.Int63n(most)))
}

// someHalves returns n half-spaces of dimension d; few numbers are 0 or near to each other if most is great.
func someHalves(r *rand.Rand, n, d int, most int64) []span.Half {
	var out []span.Half
	for range n {
		var h span.Half
		for range d {
			h.Normal = append(h.Normal, small(r, most))
		}
		h.Least = small(r, most)
		out = append(out, h)
	}
	return out
}

// mixedHalves returns n half-spaces of a kind that changes with every call; of some of them Normal is all 0.
func mixedHalves(r *rand.Rand, n, d int) []span.Half {
	out := someHalves(r, n, d, []int64{1, 2, 5, 100, 999_999}[r.Intn(5)])
	if r.Intn(4) == 0 {
		at := r.Intn(n)
		out[at].Normal = make([]frac.Rat, d)
		if r.Intn(3) > 0 {
			out[at].Least = frac.Of(-1)
		}
	}
	return out
}

func moved(list [][]int64, by []int64) [][]int64 {
	var out [][]int64
	for _, p := range list {
		q := slices.Clone(p)
		for i := range q {
			q[i] += by[i]
		}
		out = append(out, q)
	}
	return out
}

// zero fails if a slice next to an error or a false is not empty.
func zero[T any](t *testing.T, what string, l []T) {
	t.Helper()
	if len(l) > 0 {
		t.Fatalf("%s: %v next to an error, or a false", what, l)
	}
}
