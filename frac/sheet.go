package frac

// sheet is an exact table of a system with n columns: row i begins as the quantity n + i, which is how far the sum of row i is from its element of b; column j as the quantity j, which is the unknown of that number; the last column is the number 1.
//
// Its cells are fractions over one denominator, the scale. Both may be very long, so they are kept modulo as many primes as are enough to tell them, and only those that are asked for are put together.
type sheet struct {
	n       int
	start   [][]Int // the cells before any exchange
	factors []Int   // by which the rows were multiplied, so that they are whole
	enough  int     // how many primes tell any cell

	above, beside []int    // the quantities of columns and rows
	done          [][2]int // the exchanges, in order
	sense         int      // the sign of the scale

	tables []*table[residue]
	radix  radix
	next   uint64 // primes from it on were tried
}

// newSheet returns the sheet of a system that was checked.
func newSheet(rows [][]Rat, b []Rat) *sheet {
	s := &sheet{next: primeTop, sense: 1}
	if len(rows) > 0 {
		s.n = len(rows[0])
	}
	for j := range s.n {
		s.above = append(s.above, j)
	}
	need := 2 // a cell, twice and a little more, since it has a sign
	for i, row := range rows {
		cells, factor := whole(row, b[i].Neg())
		s.start = append(s.start, cells)
		s.factors = append(s.factors, factor)
		s.beside = append(s.beside, s.n+i)
		need += boundOfMinors(cells)
	}
	s.enough = need/primeBits + 1
	s.fill()
	return s
}

// whole returns a row with one more element, times the least factor that makes it whole, and that factor.
func whole(row []Rat, last Rat) ([]Int, Int) {
	factor := digits{1}
	for _, r := range append(row[:len(row):len(row)], last) {
		if len(r.den) > 0 {
			missing, _ := divide(r.den, gcd(factor, r.den))
			factor = multiply(factor, missing)
		}
	}
	cells := make([]Int, 0, len(row)+1)
	for _, r := range append(row[:len(row):len(row)], last) {
		missing, _ := divide(factor, r.lower())
		cells = append(cells, r.num.times(signed(false, missing)))
	}
	return cells, signed(false, factor)
}

// boundOfMinors returns the bits that a row adds to a minor at most (Hadamard).
func boundOfMinors(cells []Int) int {
	var sum digits
	for _, a := range cells {
		sum = add(sum, a.size)
	}
	return bound(sum)
}

// fill adds tables until there are enough.
func (s *sheet) fill() {
	for len(s.tables) < s.enough {
		s.next = primeBelow(s.next)
		if t := s.modulo(s.next); t != nil {
			s.tables = append(s.tables, t)
		}
	}
	primes := make([]uint64, 0, s.enough)
	for _, t := range s.tables {
		primes = append(primes, t.scale.prime)
	}
	s.radix = newRadix(primes)
}

// modulo returns the table modulo a prime, or nil if one of the exchanges cannot be made there, because the prime divides its cell.
func (s *sheet) modulo(prime uint64) *table[residue] {
	t := &table[residue]{scale: residue{1, prime}}
	for _, cells := range s.start {
		row := make([]residue, 0, len(cells))
		for _, a := range cells {
			row = append(row, residueOf(a, prime))
		}
		t.cells = append(t.cells, row)
	}
	for _, at := range s.done {
		if t.cells[at[0]][at[1]].zero() {
			return nil
		}
		t.exchange(at[0], at[1])
	}
	return t
}

// exchange lets the quantities of a row and a column change places. Their cell is not 0.
func (s *sheet) exchange(r, c int) {
	kept := make([]*table[residue], 0, len(s.tables))
	for _, t := range s.tables {
		if !t.cells[r][c].zero() {
			t.exchange(r, c)
			kept = append(kept, t)
		}
	}
	s.done = append(s.done, [2]int{r, c})
	s.beside[r], s.above[c] = s.above[c], s.beside[r]
	if len(kept) < len(s.tables) {
		s.tables = kept
		s.fill()
	}
}

// zero reports whether a cell is 0.
func (s *sheet) zero(r, c int) bool {
	for _, t := range s.tables {
		if !t.cells[r][c].zero() {
			return false
		}
	}
	return true
}

// residues returns the residues of a cell times the scale.
func (s *sheet) residues(r, c int) []uint64 {
	out := make([]uint64, 0, len(s.tables))
	for _, t := range s.tables {
		out = append(out, t.cells[r][c].times(t.scale).value)
	}
	return out
}

// sign returns the sign of a cell, once the rows are solved.
func (s *sheet) sign(r, c int) int {
	if s.zero(r, c) {
		return 0
	}
	return s.radix.sign(s.residues(r, c)) * s.sense
}

// cell returns a cell times the scale.
func (s *sheet) cell(r, c int) Int {
	return s.radix.whole(s.residues(r, c))
}

func (s *sheet) scale() Int {
	residues := make([]uint64, 0, len(s.tables))
	for _, t := range s.tables {
		residues = append(residues, t.scale.value)
	}
	return s.radix.whole(residues)
}

// solve brings an unknown to each row for which there is one that it depends on.
func (s *sheet) solve() {
	for r := range s.beside {
		for c, q := range s.above {
			if q < s.n && !s.zero(r, c) {
				s.exchange(r, c)
				break
			}
		}
	}
	s.sense = s.scale().Sign()
}

// contradiction returns a row that is not 0 whatever the unknowns are, once the rows are solved, or -1.
func (s *sheet) contradiction() int {
	for r, q := range s.beside {
		if q >= s.n && !s.zero(r, s.n) {
			return r
		}
	}
	return -1
}

// obstacle returns a row that shows that there is no plain solution, or -1.
func (s *sheet) obstacle() int {
	s.solve()
	if r := s.contradiction(); r >= 0 {
		return r
	}
	return s.straighten()
}

// straighten makes exchanges until no unknown beside a row is negative, and returns -1, or a row that shows that this cannot be. It takes the least quantities that it can, which is why it ends (Bland).
func (s *sheet) straighten() int {
	for {
		r := s.leastRow()
		if r < 0 {
			return -1
		}
		c := s.leastColumn(r)
		if c < 0 {
			return r
		}
		s.exchange(r, c)
	}
}

// leastRow returns the row of the least unknown that is negative if those above are 0, or -1.
func (s *sheet) leastRow() int {
	least := -1
	for r, q := range s.beside {
		if q < s.n && (least < 0 || q < s.beside[least]) && s.sign(r, s.n) < 0 {
			least = r
		}
	}
	return least
}

// leastColumn returns the column of the least unknown that makes the one beside row r greater, or -1.
func (s *sheet) leastColumn(r int) int {
	least := -1
	for c, q := range s.above {
		if q < s.n && (least < 0 || q < s.above[least]) && s.sign(r, c) > 0 {
			least = c
		}
	}
	return least
}

// solution returns the unknowns if those above are 0.
func (s *sheet) solution() []Rat {
	out := make([]Rat, s.n)
	scale := s.scale()
	for r, q := range s.beside {
		if q < s.n {
			out[q] = quotient(s.cell(r, s.n), scale)
		}
	}
	return out
}

// weights returns the weights of the system's rows with which row r is made of them, times a number such that those of b add up to total.
func (s *sheet) weights(r int, total Int) []Rat {
	out := make([]Rat, len(s.beside))
	sum := s.cell(r, s.n)
	for c, q := range s.above {
		if q >= s.n {
			i := q - s.n
			out[i] = quotient(s.cell(r, c).times(s.factors[i]).times(total), sum)
		}
	}
	if q := s.beside[r]; q >= s.n {
		i := q - s.n
		out[i] = quotient(s.scale().Neg().times(s.factors[i]).times(total), sum)
	}
	return out
}

// quotient returns a divided by b, which is not 0.
func quotient(a, b Int) Rat {
	return reduced(signed(a.negative != b.negative, a.size), b.size)
}
