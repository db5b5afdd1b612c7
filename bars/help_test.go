package bars_test

import (
	"cmp"
	"fmt"
	"math/rand"
	"reflect"
	"slices"
	"strconv"
	"strings"
	"testing"

	"rabbet/api"
	"rabbet/bars"
)

const million = 1_000_000

// must returns the result of a call that has one.
func must[T any](x T, e api.Errno) T {
	if e != api.OK {
		panic(e)
	}
	return x
}

// lists is the lists of a string with blanks, each a character for each number: 0 to 9, and a to z from 10 on.
func lists(s string) [][]int {
	var out [][]int
	for _, word := range strings.Fields(s) {
		var list []int
		for _, r := range word {
			n, err := strconv.ParseInt(string(r), 36, 64)
			if err != nil {
				panic(s)
			}
			list = append(list, int(n))
		}
		out = append(out, list)
	}
	return out
}

// text is lists as such a string.
func text(l [][]int) string {
	var out []string
	for _, list := range l {
		word := ""
		for _, n := range list {
			word += strconv.FormatInt(int64(n), 36)
		}
		out = append(out, word)
	}
	return strings.Join(out, " ")
}

// numbers is the numbers of a string with blanks.
func numbers(s string) []int {
	var out []int
	for _, f := range strings.Fields(s) {
		out = append(out, number(f))
	}
	return out
}

func number(s string) int {
	n, err := strconv.Atoi(s)
	if err != nil {
		panic(s)
	}
	return n
}

// parse is the bars of a string with blanks: "1:-2..5" is of dimension 1, from -2 to 5, "0:3.." is open.
func parse(s string) []bars.Bar {
	var out []bars.Bar
	for _, f := range strings.Fields(s) {
		dim, rest, _ := strings.Cut(f, ":")
		birth, death, _ := strings.Cut(rest, "..")
		b := bars.Bar{Dim: number(dim), Birth: number(birth), Open: death == ""}
		if !b.Open {
			b.Death = number(death)
		}
		out = append(out, b)
	}
	return out
}

// written is bars as such a string.
func written(l []bars.Bar) string {
	var out []string
	for _, b := range l {
		s := fmt.Sprintf("%d:%d..", b.Dim, b.Birth)
		if !b.Open || b.Death != 0 {
			s += strconv.Itoa(b.Death)
		}
		out = append(out, s)
	}
	return strings.Join(out, " ")
}

func newRand(seed int64) *rand.Rand {
	return rand.New(rand.NewSource(seed))
}

// zero fails if a result that has no value is not a zero value.
func zero(t *testing.T, name string, l ...any) {
	t.Helper()
	for _, x := range l {
		if !reflect.ValueOf(x).IsZero() {
			t.Fatalf("%s: %v, where there is no result", name, x)
		}
	}
}

// values is the results of a call.
func values(l ...any) []any {
	return l
}

// expect fails if a call does not have this error, which comes last in its results, or if there is anything else next to it.
func expect(t *testing.T, name string, want api.Errno, l []any) {
	t.Helper()
	last := len(l) - 1
	if l[last] != want {
		t.Fatalf("%s: %d, not %d", name, l[last], want)
	}
	if want != api.OK {
		zero(t, name, l[:last]...)
	}
}

const (
	plane  = "012 013 024 035 045 125 134 145 234 235"
	moore3 = "013 015 017 023 024 027 045 124 125 126 134 167 236 257 345 356 567" // a disc around a triangle, three times
	moore4 = "014 0156 017 0238 024 027 035 068 1236 1258 137 148 245 267 3457 4678"
	moore5 = "0138 0157 01a 0246 0279 02a 036 048 059 1249 125 1268 139 14a 167 235a 278 359 367a 478a"
	klein  = "015 016 023 027 036 045 047 125 127 167 234 246 256 345 356 467"
	torus  = "013 124 235 346 045 156 026 023 134 245 356 046 015 126"
	solids = "0123 0124 0134 0234 1234"                                                                            // a sphere of dimension 3
	double = "0126 0136 0246 0356 0456 1256 1346 1456 2346 2356 0127 0137 0247 0357 0457 1257 1347 1457 2347 2357" // of the plane
)

// relabelled is a complex with its vertices named anew, and its facets in another order.
func relabelled(r *rand.Rand, c [][]int) [][]int {
	names := r.Perm(16)
	var out [][]int
	for _, facet := range c {
		var list []int
		for _, v := range facet {
			list = append(list, names[v])
		}
		slices.Sort(list)
		out = append(out, list)
	}
	r.Shuffle(len(out), func(i, j int) { out[i], out[j] = out[j], out[i] })
	return out
}

func hasList(l [][]int, list []int) bool {
	return slices.ContainsFunc(l, func(other []int) bool { return slices.Equal(other, list) })
}

// grown is a complex with random facets behind it, until it has so many.
func grown(r *rand.Rand, c [][]int, facets, vertices, least, most int) [][]int {
	for tries := 0; len(c) < facets && tries < 100; tries++ {
		list := r.Perm(vertices)
		list = list[:min(len(list), least+r.Intn(most-least+1))]
		slices.Sort(list)
		if !hasList(c, list) {
			c = append(c, list)
		}
	}
	return c
}

// mixed is a random complex, some of them with a known one in it.
func mixed(r *rand.Rand) [][]int {
	var c [][]int
	if r.Intn(3) == 0 {
		all := []string{plane, moore3, moore4, moore5, klein, torus, solids, double}
		c = relabelled(r, lists(all[r.Intn(len(all))]))
	}
	sizes := [][2]int{{1, 4}, {1, 2}, {2, 3}, {3, 3}, {3, 4}, {4, 4}}[r.Intn(6)]
	return grown(r, c, 1+r.Intn(20), 2+r.Intn(15), sizes[0], sizes[1])
}

// shaded is random shades of a complex: of few values or of many, all the same, rising, or as far apart as they may be.
func shaded(r *rand.Rand, c [][]int) []int {
	out := make([]int, len(vertices(c)))
	kind := r.Intn(6)
	for v := range out {
		switch kind {
		case 0:
			out[v] = 0
		case 1:
			out[v] = v
		case 2:
			out[v] = r.Intn(3) - 1
		case 3:
			out[v] = r.Intn(12)
		case 4:
			out[v] = r.Intn(2*million+1) - million
		default:
			out[v] = []int{-million, million}[r.Intn(2)]
		}
	}
	return out
}

// What follows are the definitions, by other ways than the program's.

// vertices is the numbers from 0 to the greatest vertex.
func vertices(c [][]int) []int {
	most := 0
	for _, facet := range c {
		for _, v := range facet {
			most = max(most, v)
		}
	}
	out := make([]int, most+1)
	for v := range out {
		out[v] = v
	}
	return out
}

func within(part, list []int) bool {
	for _, v := range part {
		if !slices.Contains(list, v) {
			return false
		}
	}
	return true
}

// faces is the faces of dimension k of the level s: of all rising lists of vertices that are not darker, those that are contained in a facet.
func faces(c [][]int, shades []int, k, s int) [][]int {
	var out [][]int
	var list []int
	var extend func(from int)
	extend = func(from int) {
		if !slices.ContainsFunc(c, func(facet []int) bool { return within(list, facet) }) {
			return
		}
		if len(list) == k+1 {
			out = append(out, slices.Clone(list))
			return
		}
		for v := from; v < len(shades); v++ {
			if shades[v] > s {
				continue
			}
			list = append(list, v)
			extend(v + 1)
			list = list[:len(list)-1]
		}
	}
	if k >= 0 {
		extend(0)
	}
	return out
}

// boundaries is the boundaries of the faces of dimension k of a level, a row each, by the faces below them of another one.
func boundaries(over, under [][]int) [][]int {
	at := map[string]int{}
	for i, f := range under {
		at[text([][]int{f})] = i
	}
	var rows [][]int
	for _, f := range over {
		row := make([]int, len(under))
		for i := range f {
			side := slices.Delete(slices.Clone(f), i, i+1)
			if n, ok := at[text([][]int{side})]; ok && len(side) > 0 {
				row[n] = []int{1, -1}[i%2]
			}
		}
		rows = append(rows, row)
	}
	return rows
}

// dimension is how many rows are independent modulo a prime.
func dimension(rows [][]int, p int) int {
	var done [][]int
	for _, row := range rows {
		row = slices.Clone(row)
		for _, d := range done {
			first := slices.IndexFunc(d, func(x int) bool { return x != 0 })
			for row[first]%p != 0 { // it has a 1 there; so this ends
				for i := range row {
					row[i] = ((row[i]-d[i])%p + p) % p
				}
			}
		}
		first := slices.IndexFunc(row, func(x int) bool { return x%p != 0 })
		if first < 0 {
			continue
		}
		next := make([]int, len(row))
		for next[first] != 1 {
			for i := range row {
				next[i] = ((next[i]+row[i])%p + p) % p
			}
		}
		done = append(done, next)
	}
	return len(done)
}

// rank is the rank from s to t: of the cycles of the level s, those are taken away that are boundaries in the level t. These are as many as there are boundaries there, less those that are independent where the level s has no faces.
func rank(c [][]int, shades []int, p, k, s, t int) int {
	inner, outer, over := faces(c, shades, k, s), faces(c, shades, k, t), faces(c, shades, k+1, t)
	var rest [][]int
	for _, f := range outer {
		if !hasList(inner, f) {
			rest = append(rest, f)
		}
	}
	cycles := len(inner) - dimension(boundaries(inner, faces(c, shades, k-1, s)), p)
	return cycles - dimension(boundaries(over, outer), p) + dimension(boundaries(over, rest), p)
}

// byRanks is the bars of a complex: how many there are from one shade to another one follows from four ranks.
func byRanks(c [][]int, shades []int, p int) []bars.Bar {
	steps := slices.Clone(shades)
	slices.Sort(steps)
	steps = slices.Compact(steps)
	var out []bars.Bar
	for k := range 5 {
		ranks := map[[2]int]int{}
		for i := range steps {
			for j := i; j < len(steps); j++ {
				ranks[[2]int{i, j}] = rank(c, shades, p, k, steps[i], steps[j])
			}
		}
		for i := range steps {
			for j := i + 1; j < len(steps); j++ {
				n := ranks[[2]int{i, j - 1}] - ranks[[2]int{i - 1, j - 1}] - ranks[[2]int{i, j}] + ranks[[2]int{i - 1, j}]
				out = append(out, slices.Repeat([]bars.Bar{{Dim: k, Birth: steps[i], Death: steps[j]}}, n)...)
			}
			n := ranks[[2]int{i, len(steps) - 1}] - ranks[[2]int{i - 1, len(steps) - 1}]
			out = append(out, slices.Repeat([]bars.Bar{{Dim: k, Birth: steps[i], Open: true}}, n)...)
		}
	}
	return out
}

func abs(n int) int {
	if n < 0 {
		return -n
	}
	return n
}

// paired reports whether bars may be paired, alone whether one may be left.
func paired(a, b bars.Bar, h int) bool {
	if a.Open != b.Open || 2*abs(a.Birth-b.Birth) > h {
		return false
	}
	return a.Open || 2*abs(a.Death-b.Death) <= h
}

func alone(b bars.Bar, h int) bool {
	if b.Open {
		return false
	}
	return b.Death-b.Birth <= h
}

// isPairing is the definition of a pairing.
func isPairing(a, b []bars.Bar, h int, pairs []int) bool {
	if len(pairs) != len(a) {
		return false
	}
	count := map[int]int{}
	for i, j := range pairs {
		switch {
		case j == -1:
			if !alone(a[i], h) {
				return false
			}
		case j < 0 || j >= len(b) || !paired(a[i], b[j], h):
			return false
		}
		count[j]++
	}
	for j := range b {
		if count[j] > 1 || count[j] == 0 && !alone(b[j], h) {
			return false
		}
	}
	return true
}

// isCrowd is the definition of a crowd.
func isCrowd(a, b []bars.Bar, h int, c bars.Crowd) bool {
	if c.Second {
		a, b = b, a
	}
	partners := map[int]bool{}
	for n, i := range c.Bars {
		if i < 0 || i >= len(a) || n > 0 && i <= c.Bars[n-1] || alone(a[i], h) {
			return false
		}
		for j := range b {
			if paired(a[i], b[j], h) {
				partners[j] = true
			}
		}
	}
	return len(partners) < len(c.Bars)
}

// pairings calls f with all lists that may be pairings, until it returns true, and reports whether it did.
func pairings(a, b int, f func(pairs []int) bool) bool {
	var pairs []int
	var extend func() bool
	extend = func() bool {
		if len(pairs) == a {
			return f(pairs)
		}
		for j := -1; j < b; j++ {
			if j >= 0 && slices.Contains(pairs, j) {
				continue
			}
			pairs = append(pairs, j)
			if extend() {
				return true
			}
			pairs = pairs[:len(pairs)-1]
		}
		return false
	}
	return extend()
}

// crowds calls f with all sets of bars of both lists, until it returns true, and reports whether it did.
func crowds(a, b int, f func(c bars.Crowd) bool) bool {
	for side, n := range []int{a, b} {
		for set := range 1 << n {
			c := bars.Crowd{Second: side == 1}
			for i := range n {
				if set>>i&1 == 1 {
					c.Bars = append(c.Bars, i)
				}
			}
			if f(c) {
				return true
			}
		}
	}
	return false
}

// some is random bars: so many, from places below a number, not longer than another one.
func some(r *rand.Rand, count, places, length, open int) []bars.Bar {
	var out []bars.Bar
	for range count {
		b := bars.Bar{Dim: r.Intn(7) - 2, Birth: r.Intn(places)}
		if r.Intn(100) < open {
			b.Open = true
		} else {
			b.Death = b.Birth + 1 + r.Intn(length)
		}
		out = append(out, b)
	}
	return out
}

// near is bars that are a little different from others, in another order, with some short ones more.
func near(r *rand.Rand, l []bars.Bar, by int) []bars.Bar {
	var out []bars.Bar
	for _, b := range l {
		b.Birth += r.Intn(2*by+1) - by
		if !b.Open {
			b.Death = max(b.Birth+1, b.Death+r.Intn(2*by+1)-by)
		}
		out = append(out, b)
	}
	r.Shuffle(len(out), func(i, j int) { out[i], out[j] = out[j], out[i] })
	return out
}

// of is the bars of one dimension.
func of(l []bars.Bar, k int) []bars.Bar {
	var out []bars.Bar
	for _, b := range l {
		if b.Dim == k {
			out = append(out, b)
		}
	}
	return out
}

// inOrder reports whether bars are in the order of the definition.
func inOrder(l []bars.Bar) bool {
	open := func(b bars.Bar) int {
		if b.Open {
			return 1
		}
		return 0
	}
	return slices.IsSortedFunc(l, func(a, b bars.Bar) int {
		return slices.Compare([]int{a.Dim, a.Birth, open(a), a.Death}, []int{b.Dim, b.Birth, open(b), b.Death})
	})
}

// least is the least number of those from 0 to a limit for which f is true, or -1.
func least(limit int, f func(n int) bool) int {
	for n := range limit + 1 {
		if f(n) {
			return n
		}
	}
	return -1
}

func sortedBy[T cmp.Ordered](l []T) []T {
	out := slices.Clone(l)
	slices.Sort(out)
	return out
}

// sorted is bars in some order.
func sorted(l []bars.Bar) []bars.Bar {
	out := slices.Clone(l)
	slices.SortFunc(out, func(a, b bars.Bar) int {
		return cmp.Compare(written([]bars.Bar{a}), written([]bars.Bar{b}))
	})
	return out
}
