package view_test

import (
	"math/big"
	"math/rand"
	"strings"
	"testing"

	"rabbet/api"
	"rabbet/frac"
	"rabbet/view"
)

// must returns the result of a call that has one.
func must[T any](x T, e api.Errno) T {
	if e != api.OK {
		panic(e)
	}
	return x
}

// numbers is the fractions of a string with blanks.
func numbers(s string) []frac.Rat {
	var out []frac.Rat
	for _, f := range strings.Fields(s) {
		out = append(out, must(frac.Parse(f)))
	}
	return out
}

func triple(s string) view.Triple {
	return view.Triple(numbers(s))
}

func conic(s string) view.Conic {
	return view.Conic(numbers(s))
}

// matrix is the map of three rows.
func matrix(s string) view.Map {
	l := numbers(s)
	return view.Map{[3]frac.Rat(l[:3]), [3]frac.Rat(l[3:6]), [3]frac.Rat(l[6:])}
}

// triples is the triples of a string, with commas between them.
func triples(s string) []view.Triple {
	var out []view.Triple
	for part := range strings.SplitSeq(s, ",") {
		out = append(out, triple(part))
	}
	return out
}

// listed is the numbers of a triple, a conic or a map, one after the other.
func listed[T view.Triple | view.Conic | view.Map](x T) []frac.Rat {
	switch x := any(x).(type) {
	case view.Triple:
		return x[:]
	case view.Conic:
		return x[:]
	case view.Map:
		return append(append(append([]frac.Rat(nil), x[0][:]...), x[1][:]...), x[2][:]...)
	}
	return nil
}

// text is the numbers as a string with blanks.
func text[T view.Triple | view.Conic | view.Map](x T) string {
	var out []string
	for _, r := range listed(x) {
		out = append(out, r.String())
	}
	return strings.Join(out, " ")
}

// isNormal reports whether the first number that is not 0 is 1.
func isNormal[T view.Triple | view.Conic | view.Map](x T) bool {
	for _, r := range listed(x) {
		if r.Sign() != 0 {
			return r.String() == "1"
		}
	}
	return false
}

// What follows are the definitions, in numbers of another implementation.

func toBig(l ...frac.Rat) []*big.Rat {
	out := make([]*big.Rat, len(l))
	for i, r := range l {
		out[i], _ = new(big.Rat).SetString(r.String())
	}
	return out
}

func fromBig(r *big.Rat) frac.Rat {
	return must(frac.Parse(r.RatString()))
}

// product is the sum of the products of numbers.
func product(a, b []*big.Rat) *big.Rat {
	sum := new(big.Rat)
	for i := range a {
		sum.Add(sum, new(big.Rat).Mul(a[i], b[i]))
	}
	return sum
}

// rank is how many rows are left after elimination.
func rank(rows ...[]*big.Rat) int {
	var left [][]*big.Rat
	for _, row := range rows {
		left = append(left, append([]*big.Rat(nil), row...))
	}
	done := 0
	for column := 0; len(left) > done && column < len(left[0]); column++ {
		at := done
		for at < len(left) && left[at][column].Sign() == 0 {
			at++
		}
		if at == len(left) {
			continue
		}
		left[done], left[at] = left[at], left[done]
		for _, row := range left[done+1:] {
			factor := new(big.Rat).Quo(row[column], left[done][column])
			for j := range row {
				row[j] = new(big.Rat).Sub(row[j], new(big.Rat).Mul(factor, left[done][j]))
			}
		}
		done++
	}
	return done
}

// rankOf is the rank of triples: 1 if all are the same, at most 2 if they are collinear.
func rankOf(points ...view.Triple) int {
	var rows [][]*big.Rat
	for _, p := range points {
		rows = append(rows, toBig(p[:]...))
	}
	return rank(rows...)
}

// same reports whether one is the other one times a number.
func same[T view.Triple | view.Conic | view.Map](x, y T) bool {
	return rank(toBig(listed(x)...), toBig(listed(y)...)) == 1
}

func isOn(p, l view.Triple) bool {
	return product(toBig(p[:]...), toBig(l[:]...)).Sign() == 0
}

// differ reports whether no two of the points are the same.
func differ(points ...view.Triple) bool {
	for i, p := range points {
		for _, q := range points[:i] {
			if same(p, q) {
				return false
			}
		}
	}
	return true
}

// inGeneral reports whether the points are in general position.
func inGeneral(points ...view.Triple) bool {
	for i, p := range points {
		for j, q := range points[:i] {
			for _, r := range points[:j] {
				if rankOf(p, q, r) < 3 {
					return false
				}
			}
		}
	}
	return true
}

// taken is the point to which a map takes p.
func taken(m view.Map, p view.Triple) view.Triple {
	var out view.Triple
	for i, row := range m {
		out[i] = fromBig(product(toBig(row[:]...), toBig(p[:]...)))
	}
	return out
}

// determinant is that of a matrix, by the sum over all permutations.
func determinant(m view.Map) *big.Rat {
	b := [3][]*big.Rat{toBig(m[0][:]...), toBig(m[1][:]...), toBig(m[2][:]...)}
	sum := new(big.Rat)
	for _, p := range [][4]int64{{0, 1, 2, 1}, {1, 2, 0, 1}, {2, 0, 1, 1}, {0, 2, 1, -1}, {2, 1, 0, -1}, {1, 0, 2, -1}} {
		term := big.NewRat(p[3], 1)
		for i, row := range b {
			term.Mul(term, row[p[i]])
		}
		sum.Add(sum, term)
	}
	return sum
}

// monomials is x x, y y, z z, y z, z x, x y.
func monomials(p view.Triple) []*big.Rat {
	b := toBig(p[:]...)
	times := func(i, j int) *big.Rat { return new(big.Rat).Mul(b[i], b[j]) }
	return []*big.Rat{times(0, 0), times(1, 1), times(2, 2), times(1, 2), times(2, 0), times(0, 1)}
}

func isOnConic(c view.Conic, p view.Triple) bool {
	return product(toBig(c[:]...), monomials(p)).Sign() == 0
}

// matrixOf is the matrix of a conic.
func matrixOf(c view.Conic) view.Map {
	double := func(r frac.Rat) frac.Rat { return must(r.Add(r)) }
	return view.Map{{double(c[0]), c[5], c[4]}, {c[5], double(c[1]), c[3]}, {c[4], c[3], double(c[2])}}
}

func isSmooth(c view.Conic) bool {
	return determinant(matrixOf(c)).Sign() != 0
}

// combined is m p + n q.
func combined(m frac.Rat, p view.Triple, n frac.Rat, q view.Triple) view.Triple {
	var out view.Triple
	for i := range out {
		out[i] = must(must(m.Mul(p[i])).Add(must(n.Mul(q[i]))))
	}
	return out
}

// What follows are sources of data, the same ones for the same seed.

// source gives numbers whose kind it changes from one figure to the next: tiny ones (which are often in special positions), fractions, and ones of up to 40 digits.
type source struct {
	*rand.Rand
}

func newSource(seed int64) source {
	return source{rand.New(rand.NewSource(seed))}
}

func (s source) long() *big.Int {
	limit := new(big.Int).Exp(big.NewInt(10), big.NewInt(40), nil)
	return new(big.Int).Rand(s.Rand, limit)
}

func (s source) fill(l []frac.Rat) {
	for {
		kind := s.Intn(8)
		zero := true
		for i := range l {
			switch {
			case kind < 5:
				l[i] = frac.Of(s.Int63n(5) - 2)
			case kind < 7:
				l[i] = must(frac.Make(s.Int63n(41)-20, 1+s.Int63n(9)))
			default:
				l[i] = fromBig(new(big.Rat).SetFrac(s.long(), new(big.Int).Add(s.long(), big.NewInt(1))))
				if len(l[i].Den().String()) > 40 {
					l[i] = frac.Of(1)
				}
			}
			zero = zero && l[i].Sign() == 0
		}
		if !zero {
			return
		}
	}
}

func (s source) triple() view.Triple {
	var p view.Triple
	s.fill(p[:])
	return p
}

func (s source) conic() view.Conic {
	var c view.Conic
	s.fill(c[:])
	return c
}

func (s source) matrix() view.Map {
	for {
		var m view.Map
		for i := range m {
			s.fill(m[i][:])
		}
		if determinant(m).Sign() != 0 {
			return m
		}
	}
}

// number is a small fraction, often 0.
func (s source) number() frac.Rat {
	return must(frac.Make(s.Int63n(9)-4, 1+s.Int63n(3)))
}

// nonzero is a small fraction that is not 0.
func (s source) nonzero() frac.Rat {
	for {
		if r := s.number(); r.Sign() != 0 {
			return r
		}
	}
}

// times is the same figure times some number.
func (s source) times(p view.Triple) view.Triple {
	return combined(s.nonzero(), p, frac.Rat{}, p)
}

// small is a point of few digits, so that what is made of it can be given to calls again.
func (s source) small() view.Triple {
	for {
		p := view.Triple{s.number(), s.number(), s.number()}
		if rankOf(p) == 1 {
			return p
		}
	}
}

// smallMap is a map of few digits.
func (s source) smallMap() view.Map {
	for {
		m := view.Map{s.small(), s.small(), s.small()}
		if determinant(m).Sign() != 0 {
			return m
		}
	}
}

// tiny is all points whose numbers are -1, 0 and 1, each one once.
func tiny() []view.Triple {
	var out []view.Triple
	for i := range 27 {
		p := view.Triple{frac.Of(int64(i/9) - 1), frac.Of(int64(i/3%3) - 1), frac.Of(int64(i%3) - 1)}
		if rankOf(p) == 1 && isNormal(p) {
			out = append(out, p)
		}
	}
	return out
}

// check fails unless the result is the wanted one, and normal.
func check[T view.Triple | view.Conic | view.Map](t *testing.T, name string, got T, e api.Errno, want T) {
	t.Helper()
	if e != api.OK || !isNormal(got) || !same(got, want) {
		t.Fatalf("%s: %s, %d, not %s", name, text(got), e, text(want))
	}
}

// flat fails unless the result is ErrFlat and nothing else.
func flat[T view.Triple | view.Conic | view.Map](t *testing.T, name string, got T, e api.Errno) {
	t.Helper()
	for _, r := range listed(got) {
		if r.Sign() != 0 {
			t.Fatalf("%s: %s next to an error", name, text(got))
		}
	}
	if e != api.ErrFlat {
		t.Fatalf("%s: %d, not ErrFlat", name, e)
	}
}
