package frac_test

import (
	"fmt"
	"math/big"
	"math/rand"
	"reflect"
	"strings"
	"testing"

	"rabbet/api"
	"rabbet/frac"
)

// list is fractions of a string with blanks.
func list(t *testing.T, s string) []frac.Rat {
	t.Helper()
	var out []frac.Rat
	for _, f := range strings.Fields(s) {
		out = append(out, parse(t, f))
	}
	return out
}

// rows is rows of fractions, of strings with blanks.
func rows(t *testing.T, l ...string) [][]frac.Rat {
	t.Helper()
	var out [][]frac.Rat
	for _, s := range l {
		out = append(out, list(t, s))
	}
	return out
}

func identity(n int) [][]frac.Rat {
	out := make([][]frac.Rat, n)
	for i := range out {
		out[i] = make([]frac.Rat, n)
		out[i][i] = frac.Of(1)
	}
	return out
}

// toBig is a fraction of math/big.
func toBig(r frac.Rat) *big.Rat {
	out, _ := new(big.Rat).SetString(r.String())
	return out
}

// products is the sums of the columns, and of b, each times its element of w.
func products(m [][]frac.Rat, b, w []frac.Rat) ([]*big.Rat, *big.Rat) {
	sum := new(big.Rat)
	var sums []*big.Rat
	for i, row := range m {
		if i == 0 {
			sums = make([]*big.Rat, len(row))
			for j := range sums {
				sums[j] = new(big.Rat)
			}
		}
		for j, r := range row {
			sums[j].Add(sums[j], new(big.Rat).Mul(toBig(r), toBig(w[i])))
		}
		sum.Add(sum, new(big.Rat).Mul(toBig(b[i]), toBig(w[i])))
	}
	return sums, sum
}

func isDenial(m [][]frac.Rat, b, w []frac.Rat) bool {
	if len(w) != len(m) {
		return false
	}
	sums, sum := products(m, b, w)
	for _, s := range sums {
		if s.Sign() != 0 {
			return false
		}
	}
	return sum.Cmp(big.NewRat(1, 1)) == 0
}

func isRefusal(m [][]frac.Rat, b, w []frac.Rat) bool {
	if len(w) != len(m) {
		return false
	}
	sums, sum := products(m, b, w)
	for _, s := range sums {
		if s.Sign() < 0 {
			return false
		}
	}
	return sum.Sign() < 0
}

func isSolution(m [][]frac.Rat, b, x []frac.Rat) bool {
	for i, row := range m {
		if len(x) != len(row) {
			return false
		}
		sum := new(big.Rat)
		for j, r := range row {
			sum.Add(sum, new(big.Rat).Mul(toBig(r), toBig(x[j])))
		}
		if sum.Cmp(toBig(b[i])) != 0 {
			return false
		}
	}
	return len(m) > 0 || len(x) == 0
}

// rank is how many columns are independent.
func rank(columns [][]*big.Rat) int {
	n := 0
	for len(columns) > 0 {
		c := columns[0]
		columns = columns[1:]
		at := -1
		for i, x := range c {
			if x.Sign() != 0 {
				at = i
			}
		}
		if at < 0 {
			continue
		}
		n++
		for _, d := range columns {
			factor := new(big.Rat).Quo(d[at], c[at])
			for i := range d {
				d[i] = new(big.Rat).Sub(d[i], new(big.Rat).Mul(factor, c[i]))
			}
		}
	}
	return n
}

// independent reports whether the columns at which x is not 0 are.
func independent(m [][]frac.Rat, x []frac.Rat) bool {
	var columns [][]*big.Rat
	for j, r := range x {
		if r.Sign() == 0 {
			continue
		}
		var c []*big.Rat
		for _, row := range m {
			c = append(c, toBig(row[j]))
		}
		columns = append(columns, c)
	}
	return rank(columns) == len(columns)
}

// examine checks all that P1.3 and P1.5 say of one system.
func examine(t *testing.T, m [][]frac.Rat, b []frac.Rat) (solved, plain bool) {
	t.Helper()
	x, e := frac.Solve(m, b)
	w, denied := frac.Deny(m, b)
	switch {
	case e == api.OK && !isSolution(m, b, x):
		t.Fatalf("Solve of %v, %v: %v", m, b, x)
	case e == api.OK && !independent(m, x):
		t.Fatalf("Solve of %v, %v: %v is of columns that are not independent", m, b, x)
	case e == api.OK && (denied || len(w) > 0):
		t.Fatalf("%v, %v: solved by %v and denied by %v", m, b, x, w)
	case e != api.OK && (e != api.ErrNone || len(x) > 0 || !denied || !isDenial(m, b, w) || !frac.Denies(m, b, w)):
		t.Fatalf("%v, %v: Solve %v, %d, Deny %v, %t", m, b, x, e, w, denied)
	}
	y, f := frac.Plain(m, b)
	v, refused := frac.Refuse(m, b)
	switch {
	case f == api.OK && !isSolution(m, b, y):
		t.Fatalf("Plain of %v, %v: %v", m, b, y)
	case f == api.OK && !independent(m, y):
		t.Fatalf("Plain of %v, %v: %v is of columns that are not independent", m, b, y)
	case f == api.OK && (refused || len(v) > 0 || denied):
		t.Fatalf("%v, %v: plainly solved by %v and refused by %v", m, b, y, v)
	case f != api.OK && (f != api.ErrNone || len(y) > 0 || !refused || !isRefusal(m, b, v) || !frac.Refuses(m, b, v)):
		t.Fatalf("%v, %v: Plain %v, %d, Refuse %v, %t", m, b, y, f, v, refused)
	}
	for _, r := range y {
		if r.Sign() < 0 {
			t.Fatalf("Plain of %v, %v: %v", m, b, y)
		}
	}
	return e == api.OK, f == api.OK
}

// P1.3: the errors of Check, Solve, Plain and their order; Deny, Denies, Refuse, Refuses are false.
func TestCheckErrors(t *testing.T) {
	many, wide := identity(41), [][]frac.Rat{make([]frac.Rat, 41)}
	digits60, digits61 := strings.Repeat("9", 60), strings.Repeat("9", 61)
	one := list(t, "1")
	ragged := func(m [][]frac.Rat) [][]frac.Rat { return append(m, make([]frac.Rat, 3)) }
	tests := []struct {
		name string
		m    [][]frac.Rat
		b    []frac.Rat
		want api.Errno
	}{
		{"nothing", nil, nil, api.OK},
		{"no columns", [][]frac.Rat{{}, nil}, list(t, "0 0"), api.OK},
		{"40 rows and columns", identity(40), make([]frac.Rat, 40), api.OK},
		{"41 rows", many, make([]frac.Rat, 41), api.ErrLong},
		{"41 rows, wrong b", many, nil, api.ErrLong},
		{"41 rows without columns", make([][]frac.Rat, 41), make([]frac.Rat, 41), api.ErrLong},
		{"41 columns", wide, one, api.ErrLong},
		{"41 columns, ragged", ragged(wide), one, api.ErrLong},
		{"41 columns in the second row", [][]frac.Rat{one, make([]frac.Rat, 41)}, list(t, "1 1"), api.ErrShape},
		{"longer row", rows(t, "1", "1 2"), list(t, "1 1"), api.ErrShape},
		{"shorter row", rows(t, "1 2", "1"), list(t, "1 1"), api.ErrShape},
		{"empty row", rows(t, "1 2", ""), list(t, "1 1"), api.ErrShape},
		{"short b", rows(t, "1", "1"), one, api.ErrShape},
		{"long b", rows(t, "1"), list(t, "1 1"), api.ErrShape},
		{"b without rows", nil, one, api.ErrShape},
		{"no b", rows(t, "1"), nil, api.ErrShape},
		{"60 digits", rows(t, digits60+"/2", "-1/"+digits60), list(t, "-"+digits60+" 1/"+digits60), api.OK},
		{"61 digits", rows(t, digits61), one, api.ErrSize},
		{"61 digits below 0", rows(t, "-1"+strings.Repeat("0", 60)), one, api.ErrSize},
		{"61 digits in a denominator", rows(t, "1/"+digits61), one, api.ErrSize},
		{"61 digits in b", rows(t, "1"), list(t, digits61), api.ErrSize},
		{"61 digits in a denominator of b", rows(t, "1"), list(t, "1/"+digits61), api.ErrSize},
		{"61 digits in the last row", rows(t, "1 2", "3 "+digits61), list(t, "1 1"), api.ErrSize},
		{"61 digits, wrong b", rows(t, digits61), nil, api.ErrShape},
		{"61 digits, ragged", ragged(rows(t, digits61)), list(t, "1 1"), api.ErrShape},
	}
	for _, x := range tests {
		if e := frac.Check(x.m, x.b); e != x.want {
			t.Errorf("Check of %s: %d, not %d", x.name, e, x.want)
		}
		if x.want == api.OK {
			continue
		}
		if l, e := frac.Solve(x.m, x.b); e != x.want || len(l) > 0 {
			t.Errorf("Solve of %s: %v, %d", x.name, l, e)
		}
		if l, e := frac.Plain(x.m, x.b); e != x.want || len(l) > 0 {
			t.Errorf("Plain of %s: %v, %d", x.name, l, e)
		}
		if l, ok := frac.Deny(x.m, x.b); ok || len(l) > 0 {
			t.Errorf("Deny of %s: %v", x.name, l)
		}
		if l, ok := frac.Refuse(x.m, x.b); ok || len(l) > 0 {
			t.Errorf("Refuse of %s: %v", x.name, l)
		}
	}
}

// Denies and Refuses examine w only if the system is one.
func TestDeniesOfNoSystem(t *testing.T) {
	m, b := rows(t, "0"), list(t, "1")
	if !frac.Denies(m, b, list(t, "1")) || !frac.Refuses(m, b, list(t, "-1")) {
		t.Error("0 x = 1 is not denied")
	}
	large := parse(t, "1"+strings.Repeat("0", 60))
	inverse, _ := frac.Of(1).Quo(large)
	if frac.Denies(m, []frac.Rat{large}, []frac.Rat{inverse}) || frac.Refuses(m, []frac.Rat{large}, list(t, "-1")) {
		t.Error("b has too many digits")
	}
	for _, w := range []string{"", "1 0", "1 1", "0", "2", "1/2"} {
		if frac.Denies(m, b, list(t, w)) {
			t.Errorf("Denies by %q", w)
		}
	}
	for _, w := range []string{"", "-1 0", "0", "1"} {
		if frac.Refuses(m, b, list(t, w)) {
			t.Errorf("Refuses by %q", w)
		}
	}
	if frac.Denies(m, list(t, "1 1"), list(t, "1")) || frac.Refuses(m, nil, list(t, "-1")) {
		t.Error("b has another length")
	}
}

// P1.3: Denies and Refuses of lists that fail in one thing only, and of random ones.
func TestDeniesAndRefuses(t *testing.T) {
	tests := []struct {
		m               [][]frac.Rat
		b, w            string
		denies, refuses bool
	}{
		{rows(t, "0 1 0"), "1", "1", false, false},
		{rows(t, "1 0 0"), "-1", "1", false, true},
		{rows(t, "0 0 -1"), "-1", "1", false, false},
		{rows(t, "0 -1 1"), "-1", "1", false, false},
		{rows(t, "0 0", "1 2"), "-1 0", "1 3", false, true},
		{rows(t, "1/2 1/3", "-1/4 -1/6"), "1/5 1/7", "35/17 70/17", true, false},
		{rows(t, "1/2 1/3", "-1/4 -1/6"), "1/5 1/7", "-1/3 -2/3", false, true},
		{rows(t, "1/2 1/3", "-1/4 -1/6"), "1/5 1/7", "1/3 2/3", false, false},
		{rows(t, "1", "1"), "0 0", "1 -1", false, false},
		{rows(t, "1", "1"), "1/3 1/3", "1 -1", false, false},
	}
	for _, x := range tests {
		b, w := list(t, x.b), list(t, x.w)
		if frac.Denies(x.m, b, w) != x.denies || frac.Refuses(x.m, b, w) != x.refuses {
			t.Errorf("%v, %v, %v: Denies %t, Refuses %t", x.m, b, w, frac.Denies(x.m, b, w), frac.Refuses(x.m, b, w))
		}
	}
	r := rand.New(rand.NewSource(16))
	count := map[string]int{}
	for range 3000 {
		n := 1 + r.Intn(2)
		m := randomRows(r, n, 1+r.Intn(3), smallElement(r))
		b, w := randomRows(r, 1, n, smallElement(r))[0], randomRows(r, 1, n, smallElement(r))[0]
		denies, refuses := isDenial(m, b, w), isRefusal(m, b, w)
		if frac.Denies(m, b, w) != denies || frac.Refuses(m, b, w) != refuses {
			t.Fatalf("%v, %v, %v: not %t, %t", m, b, w, denies, refuses)
		}
		count[fmt.Sprint(denies, refuses)]++
	}
	if len(count) < 3 {
		t.Errorf("kinds of lists: %v", count)
	}
}

// P1.3: Det and the order of its errors.
func TestDetErrors(t *testing.T) {
	large := strings.Repeat("9", 61)
	tests := []struct {
		name string
		m    [][]frac.Rat
		want api.Errno
	}{
		{"nothing", nil, api.OK}, {"empty", [][]frac.Rat{}, api.OK},
		{"40 rows", identity(40), api.OK},
		{"41 rows", identity(41), api.ErrLong},
		{"41 rows without columns", make([][]frac.Rat, 41), api.ErrLong},
		{"41 columns", [][]frac.Rat{make([]frac.Rat, 41)}, api.ErrLong},
		{"one row without columns", [][]frac.Rat{{}}, api.ErrShape},
		{"more columns", rows(t, "1 2"), api.ErrShape},
		{"more rows", rows(t, "1", "2"), api.ErrShape},
		{"ragged", rows(t, "1 2", "3"), api.ErrShape},
		{"ragged and large", rows(t, "1 "+large, "3"), api.ErrShape},
		{"more columns and large", rows(t, "1 "+large), api.ErrShape},
		{"large", rows(t, large), api.ErrSize},
		{"large denominator", rows(t, "0 1", "2 -1/"+large), api.ErrSize},
	}
	for _, x := range tests {
		d, e := frac.Det(x.m)
		if e != x.want || e != api.OK && d.Sign() != 0 || e == api.OK && d.String() != "1" {
			t.Errorf("Det of %s: %s, %d", x.name, d, e)
		}
	}
}

// det adds up the products of all permutations.
func det(m [][]frac.Rat) *big.Rat {
	sum := new(big.Rat)
	n := len(m)
	p := make([]int, n)
	used := make([]bool, n)
	var place func(i, inversions int)
	place = func(i, inversions int) {
		if i == n {
			product := big.NewRat(1-2*int64(inversions%2), 1)
			for k, j := range p {
				product.Mul(product, toBig(m[k][j]))
			}
			sum.Add(sum, product)
			return
		}
		for j := range n {
			if used[j] {
				continue
			}
			more := 0
			for k := j + 1; k < n; k++ {
				if used[k] {
					more++
				}
			}
			used[j], p[i] = true, j
			place(i+1, inversions+more)
			used[j] = false
		}
	}
	place(0, 0)
	return sum
}

func randomRows(r *rand.Rand, m, n int, element func() frac.Rat) [][]frac.Rat {
	out := make([][]frac.Rat, m)
	for i := range out {
		for range n {
			out[i] = append(out[i], element())
		}
	}
	return out
}

// smallElement is mostly 0, 1 or -1, so that systems are often singular.
func smallElement(r *rand.Rand) func() frac.Rat {
	return func() frac.Rat {
		switch r.Intn(6) {
		case 0, 1:
			return frac.Of(0)
		case 2, 3, 4:
			return frac.Of(int64(r.Intn(3) - 1))
		}
		f, _ := frac.Make(int64(r.Intn(19)-9), int64(1+r.Intn(4)))
		return f
	}
}

func longElement(r *rand.Rand) func() frac.Rat {
	return func() frac.Rat {
		limit := new(big.Int).Exp(big.NewInt(10), big.NewInt(60), nil)
		num, den := new(big.Int).Rand(r, limit), new(big.Int).Rand(r, limit)
		if r.Intn(2) == 0 {
			num.Neg(num)
		}
		f, _ := frac.Parse(text(new(big.Rat).SetFrac(num, den.Add(den, big.NewInt(1)))))
		return f
	}
}

func TestDet(t *testing.T) {
	r := rand.New(rand.NewSource(8))
	for i := range 600 {
		n := i % 7
		element := smallElement(r)
		if i%10 == 0 {
			element = longElement(r)
		}
		m := randomRows(r, n, n, element)
		if d, e := frac.Det(m); e != api.OK || toBig(d).Cmp(det(m)) != 0 {
			t.Fatalf("Det of %v: %s, %d", m, d, e)
		}
	}
	for s, m := range map[string][][]frac.Rat{
		"1/60": rows(t, "1/2 1/3", "1/4 1/5"),
		"-1":   rows(t, "0 1", "1 0"),
		"1":    rows(t, "0 1 0", "0 0 1", "1 0 0"),
		"0":    rows(t, "1 2", "2 4"),
		"-7":   rows(t, "-7"),
	} {
		if d, e := frac.Det(m); d.String() != s || e != api.OK {
			t.Errorf("Det of %v: %s, %d", m, d, e)
		}
	}
}

// A determinant of 40 rows that is known: of Pascal's matrix 1, of Vandermonde's the product of the differences.
func TestDetOfManyRows(t *testing.T) {
	const n = 40
	pascal, powers := identity(n), identity(n)
	for i := range n {
		for j := range n {
			pascal[i][j] = parse(t, new(big.Int).Binomial(int64(i+j), int64(i)).String())
			x := new(big.Int).Exp(big.NewInt(int64(i-20)), big.NewInt(int64(j)), nil)
			powers[i][j] = parse(t, x.String())
		}
	}
	if d, e := frac.Det(pascal); d.String() != "1" || e != api.OK {
		t.Errorf("Det of Pascal's matrix: %s, %d", d, e)
	}
	want := big.NewInt(1)
	for i := range n {
		for j := range i {
			want.Mul(want, big.NewInt(int64(i-j)))
		}
	}
	if d, e := frac.Det(powers); d.String() != want.String() || e != api.OK {
		t.Errorf("Det of Vandermonde's matrix: %s, %d", d, e)
	}
	powers[39] = powers[38]
	if d, e := frac.Det(powers); d.Sign() != 0 || e != api.OK {
		t.Errorf("Det with two rows that are the same: %s, %d", d, e)
	}
}

func TestSystemExamples(t *testing.T) {
	m, b := rows(t, "1 1"), list(t, "-1")
	if solved, plain := examine(t, m, b); !solved || plain {
		t.Errorf("x + y = -1: %t, %t", solved, plain)
	}
	if w, _ := frac.Refuse(m, b); fmt.Sprint(w) != "[1]" {
		t.Errorf("refusal of x + y = -1: %v", w)
	}
	m, b = rows(t, "1 2", "2 4"), list(t, "1 3")
	if w, ok := frac.Deny(m, b); fmt.Sprint(w) != "[-2 1]" || !ok {
		t.Errorf("denial: %v, %t", w, ok)
	}
	if solved, plain := examine(t, m, b); solved || plain {
		t.Errorf("x + 2 y = 1, 2 x + 4 y = 3: %t, %t", solved, plain)
	}
}

// Systems without rows, without columns, of zeros.
func TestEmptySystems(t *testing.T) {
	tests := []struct {
		m             [][]frac.Rat
		b             []frac.Rat
		solved, plain bool
	}{
		{nil, nil, true, true},
		{[][]frac.Rat{}, []frac.Rat{}, true, true},
		{[][]frac.Rat{{}}, list(t, "0"), true, true},
		{[][]frac.Rat{{}, nil}, list(t, "0 0"), true, true},
		{[][]frac.Rat{{}}, list(t, "-1/2"), false, false},
		{[][]frac.Rat{nil, {}}, list(t, "0 3"), false, false},
		{rows(t, "0 0"), list(t, "0"), true, true},
		{rows(t, "0 0"), list(t, "5"), false, false},
		{rows(t, "0 0", "0 1"), list(t, "0 -1"), true, false},
		{rows(t, "0 -1/3"), list(t, "-1"), true, true},
	}
	for _, x := range tests {
		if solved, plain := examine(t, x.m, x.b); solved != x.solved || plain != x.plain {
			t.Errorf("%v, %v: %t, %t", x.m, x.b, solved, plain)
		}
	}
	if frac.Denies(nil, nil, nil) || frac.Refuses(nil, nil, nil) {
		t.Error("nothing is denied")
	}
}

// P1.5, by all systems of a few small numbers.
func TestAllSmallSystems(t *testing.T) {
	var count [3]int
	for code := range 3 * 3 * 3 * 3 * 3 * 3 * 3 * 3 { // two rows, three columns, b
		m, b := [][]frac.Rat{make([]frac.Rat, 3), make([]frac.Rat, 3)}, make([]frac.Rat, 2)
		for i := range 8 {
			x := frac.Of(int64(code%3 - 1))
			code /= 3
			if i < 6 {
				m[i/3][i%3] = x
			} else {
				b[i-6] = x
			}
		}
		solved, plain := examine(t, m, b)
		switch {
		case plain:
			count[2]++
		case solved:
			count[1]++
		default:
			count[0]++
		}
	}
	if count[0] == 0 || count[1] == 0 || count[2] == 0 {
		t.Errorf("kinds of systems: %v", count)
	}
}

// P1.5, by random systems, half of which have a plain solution.
func TestEitherOr(t *testing.T) {
	r := rand.New(rand.NewSource(9))
	var count [2][2]int
	for i := range 1500 {
		m := randomRows(r, 1+r.Intn(7), 1+r.Intn(9), smallElement(r))
		b := randomRows(r, 1, len(m), smallElement(r))[0]
		if i%2 == 0 {
			for k, row := range m {
				sum := new(big.Rat)
				for j, x := range row {
					sum.Add(sum, new(big.Rat).Mul(toBig(x), big.NewRat(int64(j*j%4), 3)))
				}
				b[k] = parse(t, text(sum))
			}
		}
		solved, plain := examine(t, m, b)
		if i%2 == 0 && !plain {
			t.Fatalf("%v, %v has a plain solution", m, b)
		}
		if solved {
			count[i%2][0]++
		}
		if plain {
			count[i%2][1]++
		}
	}
	if count[1][0] == 750 || count[1][1] == count[1][0] || count[1][1] == 0 {
		t.Errorf("solved and plainly solved: %v", count)
	}
}

// P1.5, by systems at the limits of rows, columns and digits.
func TestEitherOrAtTheLimits(t *testing.T) {
	r := rand.New(rand.NewSource(10))
	sign := func() frac.Rat { return frac.Of(int64(r.Intn(3) - 1)) }
	for _, size := range [][2]int{{40, 40}, {40, 1}, {1, 40}, {12, 40}, {25, 40}} {
		m := randomRows(r, size[0], size[1], sign)
		examine(t, m, randomRows(r, 1, size[0], sign)[0])
	}
	for _, size := range [][2]int{{3, 6}, {5, 5}, {5, 4}, {6, 7}} {
		m := randomRows(r, size[0], size[1], longElement(r))
		examine(t, m, randomRows(r, 1, size[0], longElement(r))[0])
	}
	m := identity(40)
	b := randomRows(r, 1, 40, longElement(r))[0]
	for i := range m {
		m[i][i] = longElement(r)()
	}
	examine(t, m, b)
}

// Systems in which many choices are equally good, where an elimination may come back to where it was (Beale).
func TestPlainEnds(t *testing.T) {
	m := rows(t, "1 0 0 1/4 -8 -1 9", "0 1 0 1/2 -12 -1/2 3", "0 0 1 0 0 1 0", "0 0 0 -3/4 20 -1/2 6")
	for _, cost := range []string{"-5/4", "5/4", "-2", "0", "-1"} {
		examine(t, m, list(t, "0 0 1 "+cost))
	}
	n := 6 // assignments: all marks of rows and columns of a square
	var square [][]frac.Rat
	for i := range 2 * n {
		row := make([]frac.Rat, n*n)
		for j := range row {
			if j/n == i || j%n == i-n {
				row[j] = frac.Of(1)
			}
		}
		square = append(square, row)
	}
	b := list(t, strings.Repeat("1 ", 2*n))
	if solved, plain := examine(t, square, b); !solved || !plain {
		t.Error("an assignment was not found")
	}
	b[0] = frac.Of(2)
	if solved, _ := examine(t, square, b); solved {
		t.Error("rows and columns add up to different numbers")
	}
}

// modulo is a fraction modulo a prime, which is quick for large ones, too.
func modulo(r frac.Rat) *big.Int {
	prime := big.NewInt(1<<61 - 1)
	num, _ := new(big.Int).SetString(r.Num().String(), 10)
	den, _ := new(big.Int).SetString(r.Den().String(), 10)
	den.Mod(den, prime)
	num.Mul(num, den.ModInverse(den, prime))
	return num.Mod(num, prime)
}

// combined is the sum of the elements of row, each times its element of w, modulo a prime.
func combined(row, w []frac.Rat) int64 {
	sum := new(big.Int)
	for i, r := range row {
		sum.Add(sum, new(big.Int).Mul(modulo(r), modulo(w[i])))
	}
	return sum.Mod(sum, big.NewInt(1<<61-1)).Int64()
}

// P1.3: results may be of any size.
func TestResultsOfAnySize(t *testing.T) {
	const n = 24
	r := rand.New(rand.NewSource(11))
	m := randomRows(r, n, n, longElement(r))
	d, e := frac.Det(m)
	if _, f := d.Add(frac.Rat{}); e != api.OK || f != api.ErrSize {
		t.Errorf("Det of %d rows: %d, %d", n, e, f)
	}
	m[0], m[1] = m[1], m[0]
	if back, e := frac.Det(m); e != api.OK || back.Cmp(d.Neg()) != 0 {
		t.Error("exchanging two rows does not change the sign of a large determinant")
	}
	for i := range m {
		m[i] = m[i][:n-1]
	}
	b := randomRows(r, 1, n, longElement(r))[0]
	w, ok := frac.Deny(m, b)
	if _, f := w[0].Add(frac.Rat{}); !ok || f != api.ErrSize || !frac.Denies(m, b, w) {
		t.Errorf("Deny of %d rows: %t, %d", n, ok, f)
	}
	v, ok := frac.Refuse(m, b)
	if !ok || !frac.Refuses(m, b, v) {
		t.Errorf("Refuse of %d rows: %t", n, ok)
	}
	column := make([]frac.Rat, n)
	for i := range m {
		column[i] = m[i][7]
	}
	if combined(column, w) != 0 || combined(b, w) != 1 {
		t.Error("a large denial is wrong")
	}
	w[n-1] = w[n-1].Neg()
	if frac.Denies(m, b, w) {
		t.Error("Denies of a wrong list")
	}
	if x, e := frac.Solve(m, b); e != api.ErrNone || len(x) > 0 {
		t.Errorf("Solve of %d rows: %d", n, e)
	}
	x, e := frac.Solve(m[1:], b[1:])
	if _, f := x[0].Add(frac.Rat{}); e != api.OK || f != api.ErrSize {
		t.Fatalf("Solve of %d rows: %d, %d", n-1, e, f)
	}
	for i, row := range m[1:] {
		if combined(append(row[:n-1:n-1], b[i+1].Neg()), append(x[:n-1:n-1], frac.Of(1))) != 0 {
			t.Errorf("row %d of a large solution is wrong", i)
		}
	}
}

// P1.4 (determinants).
func TestDetLaws(t *testing.T) {
	r := rand.New(rand.NewSource(12))
	zeros := 0
	for range 600 {
		n := 2 + r.Intn(4)
		m := randomRows(r, n, n, smallElement(r))
		d, _ := frac.Det(m)
		if (d.Sign() == 0) != hasKernel(m) {
			t.Fatalf("Det of %v: %s, kernel %t", m, d, hasKernel(m))
		}
		if d.Sign() == 0 {
			zeros++
		}
		i := r.Intn(n)
		j := (i + 1 + r.Intn(n-1)) % n
		m[i], m[j] = m[j], m[i]
		if back, _ := frac.Det(m); back.Cmp(d.Neg()) != 0 {
			t.Fatalf("exchanging rows %d and %d of %v: %s, %s", i, j, m, d, back)
		}
	}
	if zeros < 50 || zeros > 550 {
		t.Errorf("%d determinants were 0", zeros)
	}
}

// hasKernel reports whether rows times x can be 0 for an x that is not: with an element that is 1.
func hasKernel(m [][]frac.Rat) bool {
	n := len(m)
	for j := range n {
		more := append([][]frac.Rat{}, m...)
		one := make([]frac.Rat, n)
		one[j] = frac.Of(1)
		b := make([]frac.Rat, n+1)
		b[n] = frac.Of(1)
		if _, e := frac.Solve(append(more, one), b); e == api.OK {
			return true
		}
	}
	return false
}

// R4: arguments are neither changed nor kept, results share no memory, and what lies beyond a slice is left alone.
func TestMemory(t *testing.T) {
	build := func() ([][]frac.Rat, []frac.Rat) {
		m := rows(t, "2 1 1/2 77", "1 -1 1 77", "3 0 3/2 77")
		for i := range m {
			m[i] = m[i][:3]
		}
		return m, list(t, "3 1 5 77")[:3]
	}
	m, b := build()
	frac.Check(m, b)
	frac.Det(m)
	frac.Solve(m, b)
	w, _ := frac.Deny(m, b)
	frac.Denies(m, b, w)
	frac.Plain(m, b)
	v, _ := frac.Refuse(m, b)
	frac.Refuses(m, b, v)
	wantM, wantB := build()
	for i := range m {
		if !reflect.DeepEqual(m[i][:4], wantM[i][:4]) {
			t.Errorf("row %d was changed: %v", i, m[i][:4])
		}
	}
	if !reflect.DeepEqual(b[:4], wantB[:4]) {
		t.Errorf("b was changed: %v", b[:4])
	}
	x, _ := frac.Deny(m, b)
	x[0] = frac.Of(99)
	if y, _ := frac.Deny(m, b); !reflect.DeepEqual(y, w) {
		t.Error("the same call has another result")
	}
}
