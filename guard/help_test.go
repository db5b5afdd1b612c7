package guard_test

import (
	"math/big"
	"math/rand"
	"slices"
	"strconv"
	"strings"
	"testing"

	"rabbet/api"
	"rabbet/frac"
	"rabbet/guard"
)

const limit = 1_000_000

// must returns the result of a call that has one.
func must[T any](x T, e api.Errno) T {
	if e != api.OK {
		panic(e)
	}
	return x
}

// points is the points of a string, with commas between them.
func points(s string) [][2]int64 {
	var out [][2]int64
	for part := range strings.SplitSeq(s, ",") {
		f := strings.Fields(part)
		x, ex := strconv.ParseInt(f[0], 10, 64)
		y, ey := strconv.ParseInt(f[1], 10, 64)
		if ex != nil || ey != nil {
			panic(part)
		}
		out = append(out, [2]int64{x, y})
	}
	return out
}

// The examples of the chapter, and other walls by name.
func square() [][2]int64 { return points("0 0, 4 0, 4 4, 0 4") }
func tower() [][2]int64  { return points("0 0, 6 0, 6 6, 4 6, 4 2, 2 2, 2 6, 0 6") }
func corner() [][2]int64 { return points("0 0, 6 0, 6 6, 4 6, 4 2, 0 2") }

// step is two rooms whose common piece is the kernel: a segment.
func step() [][2]int64 { return points("0 0, 4 0, 4 2, 6 2, 6 4, 2 4, 2 2, 0 2") }

// comb is a wall of 3 n corners with n prongs, each of which needs a guard.
func comb(n int64) [][2]int64 {
	out := [][2]int64{{0, 0}, {20*n - 10, 0}}
	for i := n - 1; i > 0; i-- {
		out = append(out, [2]int64{20*i + 5, 1000}, [2]int64{20 * i, 1}, [2]int64{20*i - 10, 1})
	}
	return append(out, [2]int64{5, 1000})
}

// bowl is a wall with n corners that is its own kernel.
func bowl(n int64) [][2]int64 {
	var out [][2]int64
	for i := range n {
		out = append(out, [2]int64{i - n/2, (i - n/2) * (i - n/2)})
	}
	return out
}

// What follows are the definitions, calculated in another way. Numbers of walls are less than 10^4 there.

type point = [2]int64

func minus(p, q point) point        { return point{p[0] - q[0], p[1] - q[1]} }
func cross(p, q point) int64        { return p[0]*q[1] - p[1]*q[0] }
func dot(p, q point) int64          { return p[0]*q[0] + p[1]*q[1] }
func scaled(p point, n int64) point { return point{p[0] * n, p[1] * n} }

func scaledAll(wall []point, n int64) []point {
	var out []point
	for _, p := range wall {
		out = append(out, scaled(p, n))
	}
	return out
}

// share is a fraction with a denominator above 0.
type share struct{ num, den int64 }

func newShare(num, den int64) share {
	if den < 0 {
		return share{-num, -den}
	}
	return share{num, den}
}

func (s share) within() bool { return s.num >= 0 && s.num <= s.den }

func compareShares(s, t share) int {
	return big.NewRat(s.num, s.den).Cmp(big.NewRat(t.num, t.den))
}

// shares is which shares of the way from a to b are common with the segment from c to d: none, one, or both ends of a piece.
func shares(a, b, c, d point) []share {
	way, other := minus(b, a), minus(d, c)
	den := cross(way, other)
	if den != 0 {
		s, t := newShare(cross(minus(c, a), other), den), newShare(cross(minus(c, a), way), den)
		if s.within() && t.within() {
			return []share{s}
		}
		return nil
	}
	if cross(way, minus(c, a)) != 0 {
		return nil
	}
	length := dot(way, way)
	first, last := dot(way, minus(c, a)), dot(way, minus(d, a))
	first, last = max(0, min(first, last)), min(length, max(first, last))
	if first > last {
		return nil
	}
	return []share{{first, length}, {last, length}}
}

// follows reports whether side j follows side i.
func follows(i, j, n int) bool { return (i+1)%n == j }

func isWall(wall []point) bool {
	n := len(wall)
	if n < 3 || n > api.MaxWall {
		return false
	}
	for i, p := range wall {
		if max(p[0], p[1]) > limit || min(p[0], p[1]) < -limit || slices.Index(wall, p) < i {
			return false
		}
	}
	for i, p := range wall {
		q, r := wall[(i+1)%n], wall[(i+2)%n]
		if cross(minus(q, p), minus(r, p)) == 0 {
			return false
		}
		for j := range i {
			if !follows(i, j, n) && !follows(j, i, n) && shares(p, q, wall[j], wall[(j+1)%n]) != nil {
				return false
			}
		}
	}
	// At the least corner, the wall turns as all of it does.
	least := slices.Index(wall, slices.MinFunc(wall, comparePoints))
	before, after := wall[(least+n-1)%n], wall[(least+1)%n]
	return cross(minus(wall[least], before), minus(after, wall[least])) > 0
}

func comparePoints(p, q point) int { return slices.Compare(p[:], q[:]) }

// whereIs tells where a point is, by a ray on which there is no corner.
func whereIs(wall []point, p point) int {
	n := len(wall)
	for i, q := range wall {
		if onSegment(q, wall[(i+1)%n], p) {
			return guard.Border
		}
	}
	for slope := int64(1); ; slope++ {
		ray := point{1, slope}
		if slices.ContainsFunc(wall, func(q point) bool { return cross(ray, minus(q, p)) == 0 }) {
			continue
		}
		where := guard.Outside
		for i, q := range wall {
			r := wall[(i+1)%n]
			if (cross(ray, minus(q, p)) > 0) == (cross(ray, minus(r, p)) > 0) {
				continue
			}
			// q + s (r - q) = p + t ray: t is cross(q - p, r - q) / cross(ray, r - q)
			if newShare(cross(minus(q, p), minus(r, q)), cross(ray, minus(r, q))).num > 0 {
				where = -where
			}
		}
		return where
	}
}

func onSegment(a, b, p point) bool {
	return cross(minus(b, a), minus(p, a)) == 0 && dot(minus(p, a), minus(p, b)) <= 0
}

// doSee reports whether two points of the gallery see each other: at all places where the segment meets the wall, and between any two of them, it is in the gallery. The wall's numbers differ by less than 20, so that nothing is too large.
func doSee(wall []point, p, q point) bool {
	if p == q {
		return true
	}
	stops := []share{{0, 1}, {1, 1}}
	for i, a := range wall {
		stops = append(stops, shares(p, q, a, wall[(i+1)%len(wall)])...)
	}
	slices.SortFunc(stops, compareShares)
	for i := range stops[1:] {
		s, t := stops[i], stops[i+1]
		den := 2 * s.den * t.den
		num := s.num*t.den + t.num*s.den
		middle := scaled(p, den)
		middle = point{middle[0] + num*(q[0]-p[0]), middle[1] + num*(q[1]-p[1])}
		if whereIs(scaledAll(wall, den), middle) == guard.Outside {
			return false
		}
	}
	return true
}

// facts is what the definitions tell of a wall of tiny numbers.
type facts struct {
	wall     []point
	see      map[[2]int]bool    // which corners see each other
	overlaps map[[2][3]int]bool // which triangles overlap, as far as one has asked
}

func factsOf(wall []point) facts {
	see := map[[2]int]bool{}
	for i := range wall {
		for j := range wall {
			see[[2]int{i, j}] = doSee(wall, wall[i], wall[j])
		}
	}
	return facts{wall, see, map[[2][3]int]bool{}}
}

func (f facts) overlap(t, u [3]int) bool {
	if _, ok := f.overlaps[[2][3]int{t, u}]; !ok {
		f.overlaps[[2][3]int{t, u}] = overlap(cornersOf(f.wall, t), cornersOf(f.wall, u))
	}
	return f.overlaps[[2][3]int{t, u}]
}

// overlap reports whether the insides of two triangles have a point in common: what is left of one within the other has an area.
func overlap(t, u [3]point) bool {
	outline := [][2]*big.Rat{bigPoint(t[0]), bigPoint(t[1]), bigPoint(t[2])}
	if cross(minus(u[1], u[0]), minus(u[2], u[0])) < 0 {
		u[1], u[2] = u[2], u[1]
	}
	for i, a := range u {
		outline = halved(outline, a, u[(i+1)%3])
	}
	area := new(big.Rat)
	for i, p := range outline {
		q := outline[(i+1)%len(outline)]
		area.Add(area, new(big.Rat).Sub(times(p[0], q[1]), times(p[1], q[0])))
	}
	return area.Sign() != 0
}

func times(a, b *big.Rat) *big.Rat { return new(big.Rat).Mul(a, b) }

func bigPoint(p point) [2]*big.Rat {
	return [2]*big.Rat{big.NewRat(p[0], 1), big.NewRat(p[1], 1)}
}

// leanOf is the lean of the side from a to b for the point x.
func leanOf(a, b point, x [2]*big.Rat) *big.Rat {
	up := new(big.Rat).Sub(x[1], big.NewRat(a[1], 1))
	right := new(big.Rat).Sub(x[0], big.NewRat(a[0], 1))
	return new(big.Rat).Sub(times(big.NewRat(b[0]-a[0], 1), up), times(big.NewRat(b[1]-a[1], 1), right))
}

// halved is what of a convex outline is on the left of a line.
func halved(outline [][2]*big.Rat, a, b point) [][2]*big.Rat {
	var out [][2]*big.Rat
	for i, p := range outline {
		q := outline[(i+1)%len(outline)]
		m, n := leanOf(a, b, p), leanOf(a, b, q)
		if m.Sign() >= 0 {
			out = append(out, p)
		}
		if m.Sign()*n.Sign() < 0 {
			share := new(big.Rat).Quo(m, new(big.Rat).Sub(m, n))
			var x [2]*big.Rat
			for k := range x {
				x[k] = new(big.Rat).Add(p[k], times(share, new(big.Rat).Sub(q[k], p[k])))
			}
			out = append(out, x)
		}
	}
	return out
}

func twiceArea(wall []point) int64 {
	var sum int64
	for i, p := range wall {
		sum += cross(p, wall[(i+1)%len(wall)])
	}
	return sum
}

func cornersOf(wall []point, t [3]int) [3]point {
	return [3]point{wall[t[0]], wall[t[1]], wall[t[2]]}
}

// isTriangle reports whether a triangle may be one of a triangulation, but for the others.
func (f facts) isTriangle(t [3]int) bool {
	if t[0] < 0 || t[0] >= t[1] || t[1] >= t[2] || t[2] >= len(f.wall) {
		return false
	}
	c := cornersOf(f.wall, t)
	return cross(minus(c[1], c[0]), minus(c[2], c[0])) != 0 && f.see[[2]int{t[0], t[1]}] && f.see[[2]int{t[1], t[2]}] && f.see[[2]int{t[0], t[2]}]
}

// isTriangulation is the definition. (Triangles within the gallery that do not overlap are all of it if their areas are.)
func (f facts) isTriangulation(l [][3]int) bool {
	if len(l) != len(f.wall)-2 {
		return false
	}
	var sum int64
	for i, t := range l {
		if !f.isTriangle(t) || i > 0 && slices.Compare(l[i-1][:], t[:]) >= 0 {
			return false
		}
		for _, u := range l[:i] {
			if f.overlap(t, u) {
				return false
			}
		}
		c := cornersOf(f.wall, t)
		sum += max(twiceArea(c[:]), -twiceArea(c[:]))
	}
	return sum == twiceArea(f.wall)
}

// allTriples is all triangles of n corners, rising.
func allTriples(n int) [][3]int {
	var out [][3]int
	for i := range n {
		for j := i + 1; j < n; j++ {
			for k := j + 1; k < n; k++ {
				out = append(out, [3]int{i, j, k})
			}
		}
	}
	return out
}

// chosen yields all lists of a given number of triangles that rise, of which each one fits the ones before it.
func chosen(from [][3]int, number int, fits func(l [][3]int, t [3]int) bool, yield func([][3]int)) {
	var list [][3]int
	var next func(at int)
	next = func(at int) {
		if len(list) == number {
			yield(list)
			return
		}
		for i := at; i < len(from); i++ {
			if fits(list, from[i]) {
				list = append(list, from[i])
				next(i + 1)
				list = list[:len(list)-1]
			}
		}
	}
	next(0)
}

// triangulations is all triangulations of a wall of few corners.
func triangulations(wall []point) [][][3]int {
	f := factsOf(wall)
	usable := slices.DeleteFunc(allTriples(len(wall)), func(t [3]int) bool { return !f.isTriangle(t) })
	fits := func(l [][3]int, t [3]int) bool {
		return !slices.ContainsFunc(l, func(u [3]int) bool { return f.overlap(t, u) })
	}
	var out [][][3]int
	chosen(usable, len(wall)-2, fits, func(l [][3]int) {
		if f.isTriangulation(l) {
			out = append(out, slices.Clone(l))
		}
	})
	return out
}

// kernelOf is the corners of the kernel, in any order: all points in which the lines of two sides meet and that are on the left of all, but for those between two others.
func kernelOf(wall []point) [][2]*big.Rat {
	n := len(wall)
	var all [][2]*big.Rat
	for i, a := range wall {
		for j, c := range wall[:i] {
			way, other := minus(wall[(i+1)%n], a), minus(wall[(j+1)%n], c)
			den := cross(way, other)
			if den == 0 {
				continue
			}
			share := big.NewRat(cross(minus(c, a), other), den)
			x := bigPoint(a)
			for k := range x {
				x[k].Add(x[k], times(share, big.NewRat(way[k], 1)))
			}
			if onLeft(wall, x) && !slices.ContainsFunc(all, func(y [2]*big.Rat) bool { return sameBig(x, y) }) {
				all = append(all, x)
			}
		}
	}
	var out [][2]*big.Rat
	for _, x := range all {
		if !isBetween(all, x) {
			out = append(out, x)
		}
	}
	return out
}

func sameBig(x, y [2]*big.Rat) bool { return x[0].Cmp(y[0]) == 0 && x[1].Cmp(y[1]) == 0 }

// isBetween reports whether a point is between two others of a list.
func isBetween(all [][2]*big.Rat, x [2]*big.Rat) bool {
	for _, p := range all {
		for _, q := range all {
			if sameBig(p, x) || sameBig(q, x) {
				continue
			}
			var to, from [2]*big.Rat
			for k := range x {
				to[k], from[k] = new(big.Rat).Sub(p[k], x[k]), new(big.Rat).Sub(q[k], x[k])
			}
			side := new(big.Rat).Sub(times(to[0], from[1]), times(to[1], from[0]))
			ahead := new(big.Rat).Add(times(to[0], from[0]), times(to[1], from[1]))
			if side.Sign() == 0 && ahead.Sign() < 0 {
				return true
			}
		}
	}
	return false
}

// onLeft reports whether a point is on the left of all sides, or on their lines.
func onLeft(wall []point, x [2]*big.Rat) bool {
	for i, a := range wall {
		if leanOf(a, wall[(i+1)%len(wall)], x).Sign() < 0 {
			return false
		}
	}
	return true
}

func toBig(r frac.Rat) *big.Rat {
	out, ok := new(big.Rat).SetString(r.String())
	if !ok {
		panic(r.String())
	}
	return out
}

func toBigPoint(p [2]frac.Rat) [2]*big.Rat { return [2]*big.Rat{toBig(p[0]), toBig(p[1])} }

// isRefusal is the definition; sums that are the same for three points that are not on a line are the same for all.
func isRefusal(wall []point, weights []frac.Rat) bool {
	if len(weights) != len(wall) {
		return false
	}
	used := 0
	var sums [3]big.Rat
	for i, a := range wall {
		w := toBig(weights[i])
		if w.Sign() < 0 {
			return false
		}
		if w.Sign() > 0 {
			used++
		}
		for k, x := range []point{{0, 0}, {1, 0}, {0, 1}} {
			sums[k].Add(&sums[k], times(w, leanOf(a, wall[(i+1)%len(wall)], bigPoint(x))))
		}
	}
	return used <= 3 && sums[0].Cmp(&sums[1]) == 0 && sums[0].Cmp(&sums[2]) == 0 && sums[0].Sign() < 0
}

// What follows are sources of walls, the same ones for the same seed.

// grown is a wall that begins as a triangle and gets corners, one by one, at any sides, within a square of the given size. Of a small square nearly all points are used, so that many corners are on lines of others.
func grown(r *rand.Rand, corners int, size int64) []point {
	for {
		wall := []point{anyPoint(r, size), anyPoint(r, size), anyPoint(r, size)}
		if !isWall(wall) {
			continue
		}
		for range 40 * corners {
			if len(wall) == corners {
				return wall
			}
			if more := slices.Insert(slices.Clone(wall), r.Intn(len(wall)+1), anyPoint(r, size)); isWall(more) {
				wall = more
			}
		}
	}
}

func anyPoint(r *rand.Rand, size int64) point {
	return point{r.Int63n(size), r.Int63n(size)}
}

// starred is a wall around the point 0, 0.
func starred(r *rand.Rand, corners int, size int64) []point {
	for {
		var wall []point
		for range corners {
			wall = append(wall, point{r.Int63n(2*size+1) - size, r.Int63n(2*size+1) - size})
		}
		slices.SortFunc(wall, func(p, q point) int {
			if half(p) != half(q) {
				return half(p) - half(q)
			}
			return int(max(-1, min(1, cross(q, p))))
		})
		if isWall(wall) {
			return wall
		}
	}
}

func half(p point) int {
	if p[1] > 0 || p[1] == 0 && p[0] > 0 {
		return 0
	}
	return 1
}

// lists yields all lists of different points of a grid, with the first one the least.
func lists(width, height int64, corners int, yield func([]point)) {
	var list []point
	var next func()
	next = func() {
		if len(list) == corners {
			yield(list)
			return
		}
		for i := range width * height {
			p := point{i / height, i % height}
			if len(list) > 0 && comparePoints(p, list[0]) <= 0 || slices.Contains(list, p) {
				continue
			}
			list = append(list, p)
			next()
			list = list[:len(list)-1]
		}
	}
	next()
}

// tinyWalls is all walls with corners of a grid of 3 times 3 points, from their least corner on.
func tinyWalls() [][]point {
	var out [][]point
	for corners := 3; corners <= 9; corners++ {
		lists(3, 3, corners, func(l []point) {
			if isWall(l) {
				out = append(out, slices.Clone(l))
			}
		})
	}
	return out
}

// someWalls is walls of all kinds, with few corners and tiny numbers.
func someWalls(number int) [][]point {
	r := rand.New(rand.NewSource(70))
	out := [][]point{square(), tower(), corner(), step(), bowl(3), bowl(7)}
	for i := range number {
		switch i % 4 {
		case 0:
			out = append(out, grown(r, 4+r.Intn(6), 4))
		case 1:
			out = append(out, grown(r, 4+r.Intn(6), 6))
		case 2:
			out = append(out, grown(r, 4+r.Intn(9), 12))
		case 3:
			out = append(out, starred(r, 4+r.Intn(6), 8))
		}
	}
	return out
}

// manyCorners is walls of up to api.MaxWall corners, with numbers less than 10^4.
func manyCorners() [][]point {
	r := rand.New(rand.NewSource(71))
	var out [][]point
	for i := range 12 {
		corners := api.MaxWall - i%2*r.Intn(30)
		out = append(out, grown(r, corners, 30), grown(r, corners, 5000), starred(r, corners, 3000))
	}
	return append(out, comb(2), comb(20), bowl(api.MaxWall), bowl(31), bowl(30))
}

// text is fractions as a string with blanks.
func text(l ...frac.Rat) string {
	var out []string
	for _, r := range l {
		out = append(out, r.String())
	}
	return strings.Join(out, " ")
}

// outline is points as a string with commas between them.
func outline(l [][2]frac.Rat) string {
	var out []string
	for _, p := range l {
		out = append(out, text(p[:]...))
	}
	return strings.Join(out, ", ")
}

func zeros(n int) string { return strings.Repeat("0", n) }

// numbers is the fractions of a string with blanks.
func numbers(s string) []frac.Rat {
	var out []frac.Rat
	for _, f := range strings.Fields(s) {
		out = append(out, must(frac.Parse(f)))
	}
	return out
}

// same fails unless two results are the same.
func same[T comparable](t *testing.T, name string, got, want T) {
	t.Helper()
	if got != want {
		t.Fatalf("%s: %v, not %v", name, got, want)
	}
}
