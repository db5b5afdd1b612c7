package shape_test

import (
	"math/big"
	"math/rand"
	"reflect"
	"slices"
	"strconv"
	"strings"
	"testing"

	"rabbet/api"
	"rabbet/frac"
	"rabbet/shape"
)

// must returns the result of a call that has one.
func must[T any](x T, e api.Errno) T {
	if e != api.OK {
		panic(e)
	}
	return x
}

// lists is the lists of a string with blanks, each a character for each number: 0 to 9, and a to z from 10 on.
func lists(s string) [][]int {
	var out [][]int
	for _, word := range strings.Fields(s) {
		var list []int
		for _, r := range word {
			n, err := strconv.ParseInt(string(r), 36, 64)
			if err != nil {
				panic(s)
			}
			list = append(list, int(n))
		}
		out = append(out, list)
	}
	return out
}

// text is lists as such a string.
func text(l [][]int) string {
	var out []string
	for _, list := range l {
		word := ""
		for _, n := range list {
			word += strconv.FormatInt(int64(n), 36)
		}
		out = append(out, word)
	}
	return strings.Join(out, " ")
}

// numbers is the integers of a string with blanks.
func numbers(s string) []frac.Int {
	var out []frac.Int
	for _, f := range strings.Fields(s) {
		out = append(out, number(f))
	}
	return out
}

func number(s string) frac.Int {
	return must(frac.ParseInt(s))
}

// join is numbers as a string with blanks.
func join(l []frac.Int) string {
	var out []string
	for _, n := range l {
		out = append(out, n.String())
	}
	return strings.Join(out, " ")
}

func small(l ...int) []frac.Int {
	var out []frac.Int
	for _, n := range l {
		out = append(out, frac.Whole(int64(n)))
	}
	return out
}

// digits is the greatest number of digits of integers.
func digits(l ...frac.Int) int {
	most := 0
	for _, n := range l {
		most = max(most, len(strings.TrimPrefix(n.String(), "-")))
	}
	return most
}

func nines(n int) string {
	return strings.Repeat("9", n)
}

func newRand(seed int64) *rand.Rand {
	return rand.New(rand.NewSource(seed))
}

// zero fails if a result that has no value is not a zero value.
func zero(t *testing.T, name string, l ...any) {
	t.Helper()
	for _, x := range l {
		if !reflect.ValueOf(x).IsZero() {
			t.Fatalf("%s: %v, where there is no result", name, x)
		}
	}
}

// values is the results of a call.
func values(l ...any) []any {
	return l
}

// named is a complex whose homology is known: for each dimension from 0 on Betti and the numbers of Torsion, with commas between them.
type named struct {
	name, facets, homology string
}

const (
	plane      = "012 013 024 035 045 125 134 145 234 235"
	sevenPlane = "014 015 023 0256 034 123 1246 135 3456" // another projective plane, with some of its triangles in pairs
	moore3     = "013 015 017 023 024 027 045 124 125 126 134 167 236 257 345 356 567"
	moore3Few  = "0145 0168 0238 025 0347 123 1246 1357 2478 256 5678"
	moore4     = "014 0156 017 0238 024 027 035 068 1236 1258 137 148 245 267 3457 4678"
	moore5     = "0138 0157 01a 0246 0279 02a 036 048 059 1249 125 1268 139 14a 167 235a 278 359 367a 478a"
	klein      = "015 016 023 027 036 045 047 125 127 167 234 246 256 345 356 467"
	torus      = "013 124 235 346 045 156 026 023 134 245 356 046 015 126"
	dunce      = "013 014 016 025 026 027 034 057 123 124 125 156 236 247 345 356 457"
)

// known is complexes with their homology.
func known() []named {
	return []named{
		{"a point", "0", "1"},
		{"the last point", "f", "1"},
		{"two points", "3 7", "2"},
		{"sixteen points", "0 1 2 3 4 5 6 7 8 9 a b c d e f", "16"},
		{"an edge", "2a", "1"},
		{"a point that is contained in an edge", "2a a", "1"},
		{"a triangle", "012", "1"},
		{"a solid", "048c", "1"},
		{"a solid, and parts of it", "0 01 012 0123 13 2", "1"},
		{"three edges", "01 02 12", "1, 1"},
		{"a tree", "01 02 13 14 25 26 37", "1"},
		{"two trees and a point", "01 12 5 89 8a", "3"},
		{"six points, joined", "01 02 03 04 05 12 13 14 15 23 24 25 34 35 45", "1, 10"},
		{"a sphere", "012 013 023 123", "1, 0, 1"},
		{"an octahedron", "024 025 034 035 124 125 134 135", "1, 0, 1"},
		{"a sphere of solids", "0123 0124 0134 0234 1234", "1, 0, 0, 1"},
		{"four spheres", "012 013 023 123 456 457 467 567 89a 89b 8ab 9ab cde cdf cef def", "4, 0, 4"},
		{"two spheres with a common triangle", "012 013 023 123 014 024 124", "1, 0, 2"},
		{"a sphere, a ring and a point", "012 013 023 123 36 68 38 f", "2, 1, 1"},
		{"a band", "012 123 234 034 014", "1, 1"},
		{"a torus", torus, "1, 2, 1"},
		{"a bottle of Klein", klein, "1, 1+2"},
		{"a hat", dunce, "1"},
		{"the projective plane", plane, "1, 0+2"},
		{"the projective plane, partly of solids", sevenPlane, "1, 0+2"},
		{"two projective planes", plane + " 678 679 68a 69b 6ab 78b 79a 7ab 89a 89b", "2, 0+2+2"},
		{"two projective planes with a common vertex", plane + " 578 579 58a 59b 5ab 78b 79a 7ab 89a 89b", "1, 0+2+2"},
		{"the double of the projective plane", "0126 0136 0246 0356 0456 1256 1346 1456 2346 2356 0127 0137 0247 0357 0457 1257 1347 1457 2347 2357", "1, 0, 0+2"},
		{"a disc around a triangle, three times", moore3, "1, 0+3"},
		{"the same, partly of solids", moore3Few, "1, 0+3"},
		{"a disc around a triangle, four times", moore4, "1, 0+4"},
		{"a disc around a triangle, five times", moore5, "1, 0+5"},
		{"a projective plane, and a disc three times", "9ad 9ae 9bc 9bef 9cd abc abdf ace cdef " + moore3Few, "2, 0+6"},
	}
}

// homology is Betti and Torsion of all dimensions, in the notation of named: without the last ones that are 0.
func homology(t *testing.T, c [][]int) string {
	t.Helper()
	var out []string
	for k := range 5 {
		betti, torsion, e := shape.Homology(c, k)
		if e != api.OK {
			t.Fatalf("Homology of %s, %d: %d", text(c), k, e)
		}
		out = append(out, strings.Join(append([]string{strconv.Itoa(betti)}, strings.Fields(join(torsion))...), "+"))
	}
	return written(out)
}

func written(parts []string) string {
	for len(parts) > 0 && parts[len(parts)-1] == "0" {
		parts = parts[:len(parts)-1]
	}
	return strings.Join(parts, ", ")
}

func betti(t *testing.T, c [][]int, k int) int {
	t.Helper()
	n, _, e := shape.Homology(c, k)
	if e != api.OK {
		t.Fatalf("Homology of %s, %d: %d", text(c), k, e)
	}
	return n
}

// relabelled is a complex with its vertices named anew, and its facets in another order.
func relabelled(r *rand.Rand, c [][]int) [][]int {
	names := r.Perm(16)
	var out [][]int
	for _, facet := range c {
		var list []int
		for _, v := range facet {
			list = append(list, names[v])
		}
		slices.Sort(list)
		out = append(out, list)
	}
	r.Shuffle(len(out), func(i, j int) { out[i], out[j] = out[j], out[i] })
	return out
}

func hasList(l [][]int, list []int) bool {
	return slices.ContainsFunc(l, func(other []int) bool { return slices.Equal(other, list) })
}

// grown is a complex with random facets behind it, until it has so many.
func grown(r *rand.Rand, c [][]int, facets, vertices, least, most int) [][]int {
	for tries := 0; len(c) < facets && tries < 100; tries++ {
		list := r.Perm(vertices)
		list = list[:min(len(list), least+r.Intn(most-least+1))]
		slices.Sort(list)
		if !hasList(c, list) {
			c = append(c, list)
		}
	}
	return c
}

// mixed is a random complex, some of them with a known one in it.
func mixed(r *rand.Rand) [][]int {
	var c [][]int
	if r.Intn(3) == 0 {
		list := known()
		c = relabelled(r, lists(list[r.Intn(len(list))].facets))
	}
	sizes := [][2]int{{1, 4}, {1, 2}, {2, 3}, {3, 3}, {3, 4}, {4, 4}}[r.Intn(6)]
	return grown(r, c, 1+r.Intn(20), 2+r.Intn(15), sizes[0], sizes[1])
}

// What follows are the definitions, in numbers of another implementation.

func within(part, list []int) bool {
	for _, v := range part {
		if !slices.Contains(list, v) {
			return false
		}
	}
	return true
}

func inSome(part []int, l [][]int) bool {
	return slices.ContainsFunc(l, func(list []int) bool { return within(part, list) })
}

// faces is the faces of dimension k: of all rising lists of numbers below 16, in their order, those that are contained in a facet.
func faces(c [][]int, k int) [][]int {
	var out [][]int
	var list []int
	var extend func(from int)
	extend = func(from int) {
		if !inSome(list, c) {
			return
		}
		if len(list) == k+1 {
			out = append(out, slices.Clone(list))
			return
		}
		for v := from; v < 16; v++ {
			list = append(list, v)
			extend(v + 1)
			list = list[:len(list)-1]
		}
	}
	if k >= 0 {
		extend(0)
	}
	return out
}

func allFaces(c [][]int) [][]int {
	var out [][]int
	for k := range 4 {
		out = append(out, faces(c, k)...)
	}
	return out
}

// maximal is the lists that are contained in no other one, in their order.
func maximal(l [][]int) [][]int {
	var out [][]int
	for _, list := range l {
		if hasList(out, list) || slices.ContainsFunc(l, func(other []int) bool { return !slices.Equal(other, list) && within(list, other) }) {
			continue
		}
		out = append(out, list)
	}
	slices.SortFunc(out, slices.Compare[[]int])
	return out
}

// boundaries is the boundaries of the faces of dimension k, a column each.
func boundaries(c [][]int, k int) [][]int64 {
	over, under := faces(c, k), faces(c, k-1)
	rows := make([][]int64, len(under))
	for i := range rows {
		rows[i] = make([]int64, len(over))
	}
	if k == 0 {
		return rows
	}
	for j, f := range over {
		for i := range f {
			side := slices.Delete(slices.Clone(f), i, i+1)
			at := slices.IndexFunc(under, func(g []int) bool { return slices.Equal(g, side) })
			rows[at][j] = []int64{1, -1}[i%2]
		}
	}
	return rows
}

type whole = *big.Int

func toBig(l []frac.Int) []whole {
	var out []whole
	for _, n := range l {
		x, _ := new(big.Int).SetString(n.String(), 10)
		out = append(out, x)
	}
	return out
}

func product(a, b []whole) whole {
	sum := new(big.Int)
	for i := range a {
		sum.Add(sum, new(big.Int).Mul(a[i], b[i]))
	}
	return sum
}

func wide(row []int64) []whole {
	var out []whole
	for _, n := range row {
		out = append(out, big.NewInt(n))
	}
	return out
}

// boundary is the boundary of a chain, as a string with blanks.
func boundary(c [][]int, k int, chain []frac.Int) string {
	var out []string
	for _, row := range boundaries(c, k) {
		out = append(out, product(wide(row), toBig(chain)).String())
	}
	return strings.Join(out, " ")
}

func isZero(s string) bool {
	return strings.Trim(s, "0 ") == ""
}

// denies: f makes multiples of m of all boundaries, and not of the chain.
func denies(c [][]int, k int, chain, f []frac.Int, m frac.Int) bool {
	if len(f) != len(chain) || digits(m) > 1000 || digits(f...) > 1000 || m.Sign() < 0 || m.String() == "1" {
		return false
	}
	modulus := toBig([]frac.Int{m})[0]
	divisible := func(n whole) bool {
		if modulus.Sign() == 0 {
			return n.Sign() == 0
		}
		return new(big.Int).Rem(n, modulus).Sign() == 0
	}
	list := toBig(f)
	rows := boundaries(c, k+1)
	for j := range faces(c, k+1) {
		var column []int64
		for _, row := range rows {
			column = append(column, row[j])
		}
		if !divisible(product(wide(column), list)) {
			return false
		}
	}
	return !divisible(product(toBig(chain), list))
}

// divisors is how often a prime divides the numbers of a matrix that is made diagonal: of those that are not 0. They are calculated modulo a power of it that none of them reaches.
func divisors(rows [][]int64, p int64) []int {
	power, most := p, 1
	for power <= 1<<30/p {
		power, most = power*p, most+1
	}
	var list [][]int64
	for _, row := range rows {
		var out []int64
		for _, x := range row {
			out = append(out, (x%power+power)%power)
		}
		list = append(list, out)
	}
	var out []int
	for {
		least, at, column := most, 0, 0
		for i, row := range list {
			for j, x := range row {
				if n := exponent(x, p, most); n < least {
					least, at, column = n, i, j
				}
			}
		}
		if least == most {
			slices.Sort(out)
			return out
		}
		out = append(out, least)
		list[0], list[at] = list[at], list[0]
		first := list[0]
		list = list[1:]
		share := first[column]
		for range least {
			share /= p
		}
		inverse := new(big.Int).ModInverse(big.NewInt(share), big.NewInt(power)).Int64()
		for _, row := range list {
			factor := row[column]
			for range least {
				factor /= p
			}
			factor = factor * inverse % power
			if factor == 0 {
				continue
			}
			for j, x := range first {
				row[j] = (row[j] + (power-factor)*x) % power
			}
		}
	}
}

// exponent is how often p divides x, at most so often.
func exponent(x, p int64, most int) int {
	n := 0
	for n < most && x%p == 0 {
		x /= p
		n++
	}
	return n
}

// byPrimes is Betti and Torsion of all dimensions, in the notation of named, by calculations modulo powers of primes.
func byPrimes(t *testing.T, c [][]int) string {
	t.Helper()
	const large = 1<<31 - 1
	var out []string
	for k := range 5 {
		under, over := boundaries(c, k), boundaries(c, k+1)
		rank := rankModulo(over, large)
		torsion := make([]int, rank)
		for i := range torsion {
			torsion[i] = 1
		}
		for _, p := range []int64{2, 3, 5, 7} {
			list := divisors(over, p)
			if len(list) != rank {
				t.Fatalf("%s: ranks %d, %d in dimension %d", text(c), len(list), rank, k)
			}
			for i, n := range list {
				for range n {
					torsion[i] *= int(p)
				}
			}
		}
		part := strconv.Itoa(len(faces(c, k)) - rankModulo(under, large) - rank)
		for _, n := range torsion {
			if n > 1 {
				part += "+" + strconv.Itoa(n)
			}
		}
		out = append(out, part)
	}
	return written(out)
}

// rankModulo is the rank of a matrix modulo a prime.
func rankModulo(rows [][]int64, p int64) int {
	var list [][]int64
	for _, row := range rows {
		var out []int64
		for _, x := range row {
			out = append(out, (x%p+p)%p)
		}
		list = append(list, out)
	}
	rank := 0
	for j := 0; len(list) > 0 && j < len(list[0]); j++ {
		at := slices.IndexFunc(list[rank:], func(row []int64) bool { return row[j] != 0 })
		if at < 0 {
			continue
		}
		list[rank], list[rank+at] = list[rank+at], list[rank]
		first := list[rank]
		inverse := new(big.Int).ModInverse(big.NewInt(first[j]), big.NewInt(p)).Int64()
		rank++
		for _, row := range list[rank:] {
			if row[j] == 0 {
				continue
			}
			factor := row[j] * inverse % p
			for i, x := range first {
				row[i] = (row[i] + (p-factor)*x) % p
			}
		}
		if rank == len(list) {
			break
		}
	}
	return rank
}
