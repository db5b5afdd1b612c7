package frac

// ring is anything that can be added and multiplied.
type ring[T any] interface {
	plus(T) T
	times(T) T
	zero() bool
}

// number is anything that can also be subtracted and divided.
type number[T any] interface {
	ring[T]
	minus(T) T
	over(T) T
}

// addMultiple adds a multiple of a row to another row.
func addMultiple[T ring[T]](to []T, factor T, row []T) {
	for j, x := range row {
		if !x.zero() {
			to[j] = to[j].plus(factor.times(x))
		}
	}
}

// table writes quantities (a row each) as sums of multiples of others (a column each).
type table[T number[T]] struct {
	cells [][]T
	scale T // the product of all cells on which there was an exchange
}

// exchange lets the quantities of row r and column c change places. Their cell is not 0.
func (t *table[T]) exchange(r, c int) {
	row, pivot := t.cells[r], t.cells[r][c]
	t.scale = t.scale.times(pivot)
	one := pivot.over(pivot)
	nothing := one.minus(one)
	inverse := one.over(pivot)
	for j, x := range row {
		row[j] = nothing.minus(x.times(inverse))
	}
	row[c] = inverse
	for i, other := range t.cells {
		if factor := other[c]; i != r && !factor.zero() {
			other[c] = nothing
			addMultiple(other, factor, row)
		}
	}
}
