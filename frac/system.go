package frac

import "rabbet/api"

// maxDecimals is the greatest number of decimal digits in a system.
const maxDecimals = 60

// Check tells what is wrong with a system.
func Check(rows [][]Rat, b []Rat) api.Errno {
	if tooLong(rows) {
		return api.ErrLong
	}
	if uneven(rows) || len(b) != len(rows) {
		return api.ErrShape
	}
	if tooLarge(rows...) || tooLarge(b) {
		return api.ErrSize
	}
	return api.OK
}

func tooLong(rows [][]Rat) bool {
	return len(rows) > api.MaxRows || len(rows) > 0 && len(rows[0]) > api.MaxRows
}

func uneven(rows [][]Rat) bool {
	for _, row := range rows {
		if len(row) != len(rows[0]) {
			return true
		}
	}
	return false
}

func tooLarge(lists ...[]Rat) bool {
	for _, list := range lists {
		for _, r := range list {
			if decimals(r.num.size) > maxDecimals || decimals(r.den) > maxDecimals {
				return true
			}
		}
	}
	return false
}

// Det returns the determinant.
func Det(rows [][]Rat) (Rat, api.Errno) {
	if tooLong(rows) {
		return Rat{}, api.ErrLong
	}
	if uneven(rows) || len(rows) > 0 && len(rows[0]) != len(rows) {
		return Rat{}, api.ErrShape
	}
	if tooLarge(rows...) {
		return Rat{}, api.ErrSize
	}
	s := newSheet(rows, make([]Rat, len(rows)))
	s.solve()
	if len(s.done) < len(rows) {
		return Rat{}, api.OK
	}
	det := s.scale()
	if oddOrder(s.done) {
		det = det.Neg()
	}
	factor := Whole(1)
	for _, f := range s.factors {
		factor = factor.times(f)
	}
	return quotient(det, factor), api.OK
}

// oddOrder reports whether the number of pairs of which the rows rise and the columns do not is odd. The rows rise.
func oddOrder(pairs [][2]int) bool {
	odd := false
	for i, p := range pairs {
		for _, q := range pairs[:i] {
			odd = odd != (q[1] > p[1])
		}
	}
	return odd
}

// Solve returns a solution.
func Solve(rows [][]Rat, b []Rat) ([]Rat, api.Errno) {
	if e := Check(rows, b); e != api.OK {
		return nil, e
	}
	s := newSheet(rows, b)
	s.solve()
	if s.contradiction() >= 0 {
		return nil, api.ErrNone
	}
	return s.solution(), api.OK
}

// Deny returns a denial if there is no solution.
func Deny(rows [][]Rat, b []Rat) ([]Rat, bool) {
	if Check(rows, b) != api.OK {
		return nil, false
	}
	s := newSheet(rows, b)
	s.solve()
	if r := s.contradiction(); r >= 0 {
		return s.weights(r, Whole(1)), true
	}
	return nil, false
}

// Plain returns a solution of which no element is negative.
func Plain(rows [][]Rat, b []Rat) ([]Rat, api.Errno) {
	if e := Check(rows, b); e != api.OK {
		return nil, e
	}
	s := newSheet(rows, b)
	if s.obstacle() >= 0 {
		return nil, api.ErrNone
	}
	return s.solution(), api.OK
}

// Refuse returns a refusal if there is no plain solution.
func Refuse(rows [][]Rat, b []Rat) ([]Rat, bool) {
	if Check(rows, b) != api.OK {
		return nil, false
	}
	s := newSheet(rows, b)
	if r := s.obstacle(); r >= 0 {
		return s.weights(r, Whole(-1)), true
	}
	return nil, false
}

// Denies reports whether w is a denial.
func Denies(rows [][]Rat, b, w []Rat) bool {
	sums, total, unit, ok := weighed(rows, b, w)
	for _, sum := range sums {
		ok = ok && sum.zero()
	}
	return ok && total.Cmp(unit) == 0
}

// Refuses reports whether w is a refusal.
func Refuses(rows [][]Rat, b, w []Rat) bool {
	sums, total, _, ok := weighed(rows, b, w)
	for _, sum := range sums {
		ok = ok && sum.Sign() >= 0
	}
	return ok && total.Sign() < 0
}

// weighed returns the sums of the rows and of b, each times its element of w, all of them times a unit above 0 that makes them whole; false if this is no system, or w has another length.
func weighed(rows [][]Rat, b, w []Rat) ([]Int, Int, Int, bool) {
	if Check(rows, b) != api.OK || len(w) != len(rows) {
		return nil, Int{}, Int{}, false
	}
	var lines [][]Int
	var parts []Rat
	for i, row := range rows {
		line, factor := whole(row, b[i])
		lines = append(lines, line)
		parts = append(parts, quotient(w[i].num, factor.times(w[i].Den())))
	}
	weights, unit := whole(parts, Rat{})
	sums := make([]Int, 1)
	for i, line := range lines {
		if i == 0 {
			sums = make([]Int, len(line))
		}
		addMultiple(sums, weights[i], line)
	}
	last := len(sums) - 1
	return sums[:last], sums[last], unit, true
}
