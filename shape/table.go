package shape

import "rabbet/api"

// number is anything that can be divided with a rest that is smaller than the divisor. Its zero value is 0.
type number[T any] interface {
	Sign() int
	Cmp(T) int
	Neg() T
	Add(T) (T, api.Errno)
	Mul(T) (T, api.Errno)
	Div(T) (T, T, api.Errno)
}

// addMultiple adds a multiple of a list to another one. Its results are never too large: as long as the boundaries of faces are divided by 1 or -1, all numbers are determinants of some of them, of at most 20 digits, and only few rows are left when none is 1 or -1.
func addMultiple[T number[T]](to []T, factor T, list []T) {
	for i, x := range list {
		if x.Sign() != 0 {
			product, _ := factor.Mul(x)
			to[i], _ = to[i].Add(product)
		}
	}
}

// smaller reports whether x is nearer to 0 than y.
func smaller[T number[T]](x, y T) bool {
	return size(x).Cmp(size(y)) < 0
}

func size[T number[T]](x T) T {
	if x.Sign() < 0 {
		return x.Neg()
	}
	return x
}

// table is a matrix, and how it came about: each of its rows and columns has a list of how many times it contains those that there were at first.
type table[T number[T]] struct {
	cells   [][]T
	rows    [][]T
	columns [][]T
	rank    int // how many of its first rows and columns are 0, but for the cell where they meet
}

// diagonal makes a matrix diagonal: behind the rank, nothing is left but 0.
func diagonal[T number[T]](cells [][]T, columns int, one T) table[T] {
	t := table[T]{cells: cells, rows: units(len(cells), one), columns: units(columns, one)}
	for t.bring() {
		if t.clear() {
			t.rank++ // or else a rest is left, which is brought next, as it is smaller
		}
	}
	return t
}

// units returns lists that are 0, but for one element each.
func units[T number[T]](count int, one T) [][]T {
	out := make([][]T, count)
	for i := range out {
		out[i] = make([]T, count)
		out[i][i] = one
	}
	return out
}

// bring exchanges rows and columns, so that the smallest cell behind the rank comes first, or reports that there is none.
func (t *table[T]) bring() bool {
	row, column := -1, -1
	for i := t.rank; i < len(t.cells); i++ {
		for j := t.rank; j < len(t.columns); j++ {
			if t.cells[i][j].Sign() != 0 && (row < 0 || smaller(t.cells[i][j], t.cells[row][column])) {
				row, column = i, j
			}
		}
	}
	if row < 0 {
		return false
	}
	exchange(t.cells, row, t.rank)
	exchange(t.rows, row, t.rank)
	exchange(t.columns, column, t.rank)
	for _, cells := range t.cells {
		exchange(cells, column, t.rank)
	}
	return true
}

func exchange[T any](list []T, i, j int) {
	list[i], list[j] = list[j], list[i]
}

// clear divides the cells below the first one behind the rank, and those on its right, by it, leaves the rests, and reports whether all of them are 0.
func (t *table[T]) clear() bool {
	n := t.rank
	first := t.cells[n][n]
	clean := true
	for i := n + 1; i < len(t.cells); i++ {
		if t.cells[i][n].Sign() == 0 {
			continue
		}
		quotient, rest, _ := t.cells[i][n].Div(first)
		addMultiple(t.cells[i], quotient.Neg(), t.cells[n])
		addMultiple(t.rows[i], quotient.Neg(), t.rows[n])
		clean = clean && rest.Sign() == 0
	}
	for j := n + 1; j < len(t.columns); j++ {
		if t.cells[n][j].Sign() == 0 {
			continue
		}
		quotient, rest, _ := t.cells[n][j].Div(first)
		for _, cells := range t.cells[n:] {
			addMultiple(cells[j:j+1], quotient.Neg(), cells[n:n+1])
		}
		addMultiple(t.columns[j], quotient.Neg(), t.columns[n])
		clean = clean && rest.Sign() == 0
	}
	return clean
}

// number returns the cell on which row i and column i meet, or 0 behind the rank.
func (t *table[T]) number(i int) T {
	var n T
	if i < t.rank {
		n = t.cells[i][i]
	}
	return n
}
