package frac

import (
	"math/big"
	"math/rand"
	"testing"
)

func TestPrimes(t *testing.T) {
	n := uint64(primeTop)
	for range len(primeGaps) + 40 {
		p := primeBelow(n)
		for q := n - 1; q >= p; q-- {
			if new(big.Int).SetUint64(q).ProbablyPrime(0) != (q == p) {
				t.Fatalf("primeBelow(%d) = %d, but look at %d", n, p, q)
			}
		}
		n = p
	}
	if p := primeBelow(1_000_004); p != 1_000_003 {
		t.Errorf("primeBelow(1000004) = %d", p)
	}
	for _, n := range []uint64{3215031751, 3825123056546413051, 341550071728321, 2047} { // they pass some tests
		if isPrime(n) {
			t.Errorf("isPrime(%d)", n)
		}
	}
}

func TestResidues(t *testing.T) {
	r := rand.New(rand.NewSource(4))
	for range 3000 {
		p := primeBelow(primeTop - uint64(r.Intn(600)))
		m := new(big.Int).SetUint64(p)
		x := signed(r.Intn(2) == 0, randomDigits(r, r.Intn(8)))
		b := toBig(x.size)
		if x.negative {
			b.Neg(b)
		}
		a := residueOf(x, p)
		if want := b.Mod(b, m).Uint64(); a.value != want || a.prime != p {
			t.Fatalf("residueOf(%s) modulo %d: %d", x, p, a.value)
		}
		c := residueOf(Whole(r.Int63()+1), p)
		if c.zero() {
			continue
		}
		if got := a.over(c).times(c); got != a {
			t.Fatalf("%v over %v", a, c)
		}
		if got := a.plus(c).minus(c); got != a {
			t.Fatalf("%v plus and minus %v", a, c)
		}
	}
}

func TestResiduesOfMultiples(t *testing.T) {
	p := primeBelow(primeTop)
	for _, n := range []int64{0, 1, -1, 5, -5} {
		if a := residueOf(Whole(n).times(Whole(int64(p))), p); !a.zero() {
			t.Errorf("residueOf(%d times the prime): %v", n, a)
		}
	}
	one := residue{1, p}
	if !one.minus(one).zero() || !one.plus(residue{p - 1, p}).zero() || one.over(residue{p - 1, p}).value != p-1 {
		t.Error("residues around 0")
	}
}

func TestRadix(t *testing.T) {
	r := rand.New(rand.NewSource(5))
	var primes []uint64
	for n := uint64(primeTop); len(primes) < 5; {
		n = primeBelow(n)
		primes = append(primes, n)
	}
	x := newRadix(primes)
	half := digits{1}
	for _, p := range primes {
		half = multiply(half, natural(p))
	}
	half, _ = divide(half, digits{2})
	tests := []Int{{}, Whole(1), Whole(-1), signed(false, half), signed(true, half)}
	for range 500 {
		tests = append(tests, signed(r.Intn(2) == 0, randomDigits(r, r.Intn(10))))
	}
	for _, a := range tests {
		var residues []uint64
		for _, p := range primes {
			residues = append(residues, residueOf(a, p).value)
		}
		if got := x.whole(residues); got.Cmp(a) != 0 || x.sign(residues) != a.Sign() {
			t.Fatalf("radix of %s: %s, sign %d", a, got, x.sign(residues))
		}
	}
}

// TestPrimesThatDivide has systems in which the primes themselves are pivots, so that some cannot be used.
func TestPrimesThatDivide(t *testing.T) {
	p := int64(primeTop - primeGaps[0])
	q := int64(primeTop - primeGaps[1])
	rows := [][]Rat{{Of(p), Of(1), Of(q)}, {Of(q), Of(p), Of(2)}, {Of(3), Of(q), Of(p)}}
	b := []Rat{Of(5), Of(p), Of(q)}
	s := newSheet(rows, b)
	s.solve()
	for _, table := range s.tables {
		if table.scale.prime == uint64(p) {
			t.Error("a prime that divides the first pivot is still in use")
		}
	}
	if len(s.tables) != s.enough {
		t.Errorf("%d tables, %d are needed", len(s.tables), s.enough)
	}
	x, _ := Solve(rows, b)
	for i, row := range rows {
		var sum Rat
		for j := range row {
			sum = sum.plus(row[j].times(x[j]))
		}
		if sum.Cmp(b[i]) != 0 {
			t.Errorf("row %d: %s", i, sum)
		}
	}
	product := Of(p).times(Of(q))
	if d, _ := Det([][]Rat{{Of(p), Of(0)}, {Of(7), Of(q)}}); d.Cmp(product) != 0 {
		t.Errorf("Det of primes: %s", d)
	}
}

// TestPrimesThatDivideLater has pivots that are divisible by a prime in use, and by the one that would take its place: the exchanges before are made again for others.
func TestPrimesThatDivideLater(t *testing.T) {
	b := []Rat{Of(1), Of(-2), Of(3)}
	three := func(cell Rat) [][]Rat {
		return [][]Rat{{Of(0), Of(0), Of(3), Of(7)}, {Of(0), cell, Of(1), Of(1)}, {cell, Of(2), Of(0), Of(9)}}
	}
	like := newSheet(three(Of(primeTop).times(Of(primeTop))), b)
	p, q := uint64(primeTop-primeGaps[0]), primeBelow(like.next)
	m := three(Of(int64(p)).times(Of(int64(q))))
	s := newSheet(m, b)
	s.solve()
	for _, table := range s.tables {
		if table.scale.prime == p || table.scale.prime == q {
			t.Errorf("%d divides the pivot, but is in use", table.scale.prime)
		}
	}
	x := s.solution()
	for i, row := range m {
		var sum Rat
		for j := range row {
			sum = sum.plus(row[j].times(x[j]))
		}
		if sum.Cmp(b[i]) != 0 {
			t.Errorf("row %d: %s", i, sum)
		}
	}
}

// pair is a fraction of machine words, enough to try a table over something else than residues.
type pair struct{ above, below int64 }

func (a pair) plus(b pair) pair {
	return pair{a.above*b.below + b.above*a.below, a.below * b.below}.lowest()
}
func (a pair) minus(b pair) pair { return a.plus(pair{-b.above, b.below}) }
func (a pair) times(b pair) pair { return pair{a.above * b.above, a.below * b.below}.lowest() }
func (a pair) over(b pair) pair  { return pair{a.above * b.below, a.below * b.above}.lowest() }
func (a pair) zero() bool        { return a.above == 0 }
func (a pair) lowest() pair {
	g := new(big.Int).GCD(nil, nil, big.NewInt(max(a.above, -a.above)), big.NewInt(max(a.below, -a.below))).Int64()
	if a.below < 0 {
		g = -g
	}
	return pair{a.above / g, a.below / g}
}

func TestTableOfOtherNumbers(t *testing.T) {
	x := table[pair]{cells: [][]pair{{{2, 1}, {4, 1}}, {{1, 3}, {5, 1}}}, scale: pair{1, 1}}
	x.exchange(0, 0) // u = 2 v + 4 w, z = v/3 + 5 w: v = u/2 - 2 w, z = u/6 + 13/3 w
	want := [][]pair{{{1, 2}, {-2, 1}}, {{1, 6}, {13, 3}}}
	for i, row := range want {
		for j, cell := range row {
			if x.cells[i][j] != cell {
				t.Errorf("cell %d, %d: %v", i, j, x.cells[i][j])
			}
		}
	}
	x.exchange(1, 1)
	if (x.scale != pair{26, 3}) {
		t.Errorf("scale: %v", x.scale)
	}
}
