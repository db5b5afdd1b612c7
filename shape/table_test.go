package shape

import (
	"math/bits"
	"math/rand"
	"slices"
	"strings"
	"testing"

	"rabbet/api"
	"rabbet/frac"
)

// plain is a machine integer as a number. Its rests may be below 0.
type plain int64

func (n plain) Sign() int                             { return n.Cmp(0) }
func (n plain) Neg() plain                            { return -n }
func (n plain) Add(m plain) (plain, api.Errno)        { return n + m, api.OK }
func (n plain) Mul(m plain) (plain, api.Errno)        { return n * m, api.OK }
func (n plain) Div(m plain) (plain, plain, api.Errno) { return n / m, n % m, api.OK }

func (n plain) Cmp(m plain) int {
	switch {
	case n < m:
		return -1
	case n > m:
		return 1
	}
	return 0
}

// poly is a polynomial modulo 2, by the bits of its coefficients. A rest has a smaller degree than the divisor, and is less as a number, too.
type poly uint64

func (n poly) Sign() int                    { return n.Cmp(0) }
func (n poly) Neg() poly                    { return n }
func (n poly) Add(m poly) (poly, api.Errno) { return n ^ m, api.OK }

func (n poly) Cmp(m poly) int {
	switch {
	case n < m:
		return -1
	case n > m:
		return 1
	}
	return 0
}

func (n poly) Mul(m poly) (poly, api.Errno) {
	var out poly
	for i := range 64 {
		if m>>i&1 == 1 {
			out ^= n << i
		}
	}
	return out, api.OK
}

func (n poly) Div(m poly) (poly, poly, api.Errno) {
	var quotient poly
	for bits.Len64(uint64(n)) >= bits.Len64(uint64(m)) {
		shift := bits.Len64(uint64(n)) - bits.Len64(uint64(m))
		n ^= m << shift
		quotient ^= 1 << shift
	}
	return quotient, n, api.OK
}

// checkTable makes a matrix diagonal, and checks that it is, that it came about as its lists say, and that these can be undone.
func checkTable[T number[T]](t *testing.T, cells [][]T, columns int, one T) table[T] {
	t.Helper()
	var before [][]T
	for _, row := range cells {
		before = append(before, slices.Clone(row))
	}
	out := diagonal(cells, columns, one)
	for i, row := range out.cells {
		for j, x := range row {
			if (x.Sign() != 0) != (i == j && i < out.rank) {
				t.Fatalf("%v becomes %v, of rank %d", before, out.cells, out.rank)
			}
			sum := make([]T, 1)
			for k, factor := range out.rows[i] {
				for l, n := range out.columns[j] {
					product, _ := n.Mul(factor)
					addMultiple(sum, product, before[k][l:l+1])
				}
			}
			if sum[0].Cmp(x) != 0 {
				t.Fatalf("%v becomes %v, but by its lists there is %v in row %d, column %d", before, out.cells, sum[0], i, j)
			}
		}
	}
	return out
}

// checkUndone checks that the lists of a table are as many as they must be, and lose nothing.
func checkUndone[T number[T]](t *testing.T, rows [][]T, count int, one T) {
	t.Helper()
	if len(rows) != count {
		t.Fatalf("%v: %d lists", rows, len(rows))
	}
	var copied [][]T
	for _, row := range rows {
		copied = append(copied, slices.Clone(row))
	}
	undone := checkTable(t, copied, count, one)
	for i := range count {
		if size(undone.number(i)).Cmp(one) != 0 {
			t.Fatalf("%v cannot be undone", rows)
		}
	}
}

// tables makes random matrices diagonal.
func tables[T number[T]](t *testing.T, one T, random func(r *rand.Rand) T) {
	t.Helper()
	r := rand.New(rand.NewSource(1))
	for range 1000 {
		height, width := r.Intn(5), r.Intn(5)
		cells := make([][]T, height)
		for i := range cells {
			cells[i] = make([]T, width)
			for j := range cells[i] {
				cells[i][j] = random(r)
			}
		}
		out := checkTable(t, cells, width, one)
		checkUndone(t, out.rows, height, one)
		checkUndone(t, out.columns, width, one)
	}
}

// One elimination makes matrices diagonal, whatever is in them.
func TestTables(t *testing.T) {
	tables(t, frac.Whole(1), func(r *rand.Rand) frac.Int { return frac.Whole(int64(r.Intn(21) - 10)) })
	tables(t, frac.Whole(1), func(r *rand.Rand) frac.Int { return frac.Whole(int64(2 * r.Intn(3))) })
	tables(t, plain(1), func(r *rand.Rand) plain { return plain(r.Intn(7) - 3) })
	tables(t, plain(1), func(r *rand.Rand) plain { return plain(6 * (r.Intn(3) - 1)) })
	tables(t, poly(1), func(r *rand.Rand) poly { return poly(r.Intn(8)) })
	tables(t, poly(1), func(r *rand.Rand) poly { return poly(6 * r.Intn(2)) })
}

func integers(l ...int64) []frac.Int {
	var out []frac.Int
	for _, n := range l {
		out = append(out, frac.Whole(n))
	}
	return out
}

func listed(l []frac.Int) string {
	var out []string
	for _, n := range l {
		out = append(out, n.String())
	}
	return strings.Join(out, " ")
}

// Sums of cyclic groups by hand.
func TestChained(t *testing.T) {
	for _, x := range []struct {
		orders []frac.Int
		want   string
	}{
		{nil, ""},
		{integers(1, 1, 1), ""},
		{integers(2), "2"},
		{integers(1, 7, 1), "7"},
		{integers(2, 2), "2 2"},
		{integers(2, 3), "6"},
		{integers(3, 2), "6"},
		{integers(4, 2), "2 4"},
		{integers(4, 6), "2 12"},
		{integers(6, 10, 15), "30 30"},
		{integers(2, 3, 5, 7), "210"},
		{integers(8, 1, 4, 3, 2, 9), "2 12 72"},
		{integers(30, 30, 1, 30), "30 30 30"},
		{integers(1<<62, 3), "13835058055282163712"},
	} {
		if got := listed(chained(x.orders)); got != x.want {
			t.Errorf("%s: %s, not %s", listed(x.orders), got, x.want)
		}
	}
}

// Sums of cyclic groups are the same just if, for each n, they have as many elements of which n times is 0.
func TestChainedElements(t *testing.T) {
	r := rand.New(rand.NewSource(2))
	for range 500 {
		var orders []frac.Int
		for range r.Intn(6) {
			orders = append(orders, frac.Whole(1+int64(r.Intn(12))))
		}
		list := chained(slices.Clone(orders))
		for n := range int64(100) {
			if a, b := elements(orders, n), elements(list, n); a != b {
				t.Fatalf("%s, %s: %d times is 0 of %d elements, or of %d", listed(orders), listed(list), n, a, b)
			}
		}
		for i, n := range list {
			if n.Cmp(frac.Whole(2)) < 0 {
				t.Fatalf("%s: %s", listed(orders), listed(list))
			}
			if _, ok := divided(n, list[max(i-1, 0)]); !ok {
				t.Fatalf("%s: %s", listed(orders), listed(list))
			}
		}
	}
}

func elements(orders []frac.Int, n int64) int64 {
	count := int64(1)
	for _, order := range orders {
		divisor, _ := frac.Gcd(order, frac.Whole(n)).Int64()
		count *= divisor
	}
	return count
}

// Iterators stop when they are told to, and yield nothing where there is nothing.
func TestIterators(t *testing.T) {
	list := []int{1, 4, 6, 9, 11}
	for n, want := range []int{1, 5, 10, 10, 5, 1, 0, 0} {
		count := 0
		var last []int
		for l := range choices(list, n) {
			if count > 0 && slices.Compare(last, l) >= 0 || len(l) != n || !contains(list, l) {
				t.Fatalf("%v behind %v", l, last)
			}
			last = l
			count++
		}
		if count != want {
			t.Errorf("%d choices of %d", count, n)
		}
		stop := 0
		for range choices(list, n) {
			if stop++; stop == 3 {
				break
			}
		}
		if stop != min(want, 3) {
			t.Errorf("%d choices of %d", stop, n)
		}
	}
	c := [][]int{{3, 4}, {0, 1, 2}, {1, 2}}
	for f := range facesOf(c, 1) {
		if f != faceOf([]int{0, 1}) {
			t.Errorf("%v is the first edge", f)
		}
		break
	}
	for i, side := range faceOf([]int{2, 5, 7}).sides() {
		if i != 0 || side != faceOf([]int{5, 7}) {
			t.Errorf("%d, %v is the first side", i, side)
		}
		break
	}
	for i, side := range faceOf([]int{2}).sides() {
		t.Errorf("a vertex has the side %d, %v", i, side)
	}
}
