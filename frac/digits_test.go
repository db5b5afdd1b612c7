package frac

import (
	"math/big"
	"math/rand"
	"testing"
)

// odd digits: those at which carries and guesses go wrong first.
var edges = []uint32{0, 1, base - 1, base - 2, base / 2, base/2 - 1}

func randomDigits(r *rand.Rand, n int) digits {
	d := make([]uint32, n)
	for i := range d {
		if r.Intn(2) == 0 {
			d[i] = edges[r.Intn(len(edges))]
		} else {
			d[i] = uint32(r.Intn(base))
		}
	}
	return cut(d)
}

func toBig(d digits) *big.Int {
	out := new(big.Int)
	for i := len(d) - 1; i >= 0; i-- {
		out.Mul(out, big.NewInt(base))
		out.Add(out, big.NewInt(int64(d[i])))
	}
	return out
}

// same reports whether d is in order and has the value of b.
func same(d digits, b *big.Int) bool {
	for _, x := range d {
		if x >= base {
			return false
		}
	}
	if len(d) > 0 && d[len(d)-1] == 0 || len(d) == 0 && d != nil {
		return false
	}
	return toBig(d).Cmp(b) == 0
}

func TestBoundAndDecimals(t *testing.T) {
	r := rand.New(rand.NewSource(17))
	for range 3000 {
		d := randomDigits(r, r.Intn(9))
		bits := toBig(d).BitLen()
		if bound(d) < bits || bound(d) > bits+len(d) {
			t.Fatalf("bound of %v: %d, the bits are %d", d, bound(d), bits)
		}
		if decimals(d) != len(toBig(d).String()) {
			t.Fatalf("decimals of %v: %d", d, decimals(d))
		}
	}
}

func TestDigitsAgainstBig(t *testing.T) {
	r := rand.New(rand.NewSource(1))
	for range 20000 {
		a, b := randomDigits(r, r.Intn(12)), randomDigits(r, r.Intn(9))
		x, y := toBig(a), toBig(b)
		if !same(add(a, b), new(big.Int).Add(x, y)) {
			t.Fatalf("add %v %v", a, b)
		}
		if !same(multiply(a, b), new(big.Int).Mul(x, y)) {
			t.Fatalf("multiply %v %v", a, b)
		}
		if compare(a, b) != x.Cmp(y) {
			t.Fatalf("compare %v %v", a, b)
		}
		if compare(a, b) >= 0 && !same(subtract(a, b), new(big.Int).Sub(x, y)) {
			t.Fatalf("subtract %v %v", a, b)
		}
		if !same(gcd(a, b), new(big.Int).GCD(nil, nil, x, y)) {
			t.Fatalf("gcd %v %v", a, b)
		}
		if len(b) == 0 {
			continue
		}
		q, rest := divide(a, b)
		p, m := new(big.Int).QuoRem(x, y, new(big.Int))
		if !same(q, p) || !same(rest, m) {
			t.Fatalf("divide %v %v", a, b)
		}
	}
}

// TestDivideNearMultiples divides numbers just below and above multiples, where guesses of the quotient are wrong.
func TestDivideNearMultiples(t *testing.T) {
	r := rand.New(rand.NewSource(2))
	for range 20000 {
		b := randomDigits(r, 2+r.Intn(4))
		if len(b) == 0 {
			continue
		}
		a := multiply(b, randomDigits(r, 1+r.Intn(4)))
		switch near := natural(uint64(r.Intn(3))); r.Intn(2) {
		case 0:
			a = add(a, near)
		default:
			if compare(a, near) >= 0 {
				a = subtract(a, near)
			}
		}
		q, rest := divide(a, b)
		p, m := new(big.Int).QuoRem(toBig(a), toBig(b), new(big.Int))
		if !same(q, p) || !same(rest, m) {
			t.Fatalf("divide %v %v", a, b)
		}
	}
}

func TestGcdOfLongNumbers(t *testing.T) {
	r := rand.New(rand.NewSource(3))
	for i := range 300 {
		common := randomDigits(r, r.Intn(60))
		a := multiply(common, randomDigits(r, r.Intn(200)))
		b := multiply(common, randomDigits(r, r.Intn(200)))
		if i%3 == 0 { // neighbours of the Fibonacci kind, and numbers that differ little
			b = add(a, common)
		}
		keptA, keptB := clone(a), clone(b)
		if !same(gcd(a, b), new(big.Int).GCD(nil, nil, toBig(a), toBig(b))) {
			t.Fatalf("gcd %v %v", a, b)
		}
		if compare(a, keptA) != 0 || compare(b, keptB) != 0 {
			t.Fatalf("gcd changed %v %v", keptA, keptB)
		}
	}
	x, y := natural(0), natural(1)
	for range 3000 {
		x, y = y, add(x, y)
	}
	if !isOne(gcd(x, y)) {
		t.Error("gcd of neighbours of Fibonacci's")
	}
}

func TestStepsStayInAWord(t *testing.T) {
	r := rand.New(rand.NewSource(15))
	golden := int64(2850122410843576319) // x / golden is a quotient of Fibonacci's neighbours
	for i := range 200000 {
		x := int64(1)<<61 + r.Int63n(1<<61)
		y := r.Int63n(x + 1)
		switch i % 4 {
		case 0:
			y >>= r.Intn(62)
		case 1:
			x, y = int64(1)<<62-1-r.Int63n(9), golden+r.Int63n(9)
		}
		m, _ := steps(x, y)
		if greatest := max(m.aa, -m.aa, m.ab, -m.ab, m.ba, -m.ba, m.bb, -m.bb); greatest >= 1<<31 {
			t.Fatalf("steps of %d, %d: %v", x, y, m)
		}
	}
}

// TestCutEndsCapacity appends to digits and looks at what lies behind them.
func TestCutEndsCapacity(t *testing.T) {
	memory := []uint32{1, 2, 0, 7}
	d := cut(memory[:3])
	if len(d) != 2 || cap(d) != 2 {
		t.Errorf("cut: length %d, capacity %d", len(d), cap(d))
	}
	_ = append(d, 9)
	if memory[2] != 0 || memory[3] != 7 {
		t.Errorf("cut lets append write into %v", memory)
	}
	if cut([]uint32{0, 0}) != nil {
		t.Error("cut of zeros")
	}
}

func TestSmallAtTheLimit(t *testing.T) {
	limit := new(big.Int).Lsh(big.NewInt(1), 100000)
	edge := twoTo(100000)
	if !same(edge, limit) {
		t.Fatal("twoTo(100000)")
	}
	if small(edge) || small(add(edge, digits{1})) || !small(subtract(edge, digits{1})) || !small(nil) {
		t.Error("small around the limit")
	}
	for i := 0; i < len(edge); i += 88 { // one digit more or less, wherever it is
		step := make([]uint32, i+1)
		step[i] = 1
		if !small(subtract(edge, step)) || small(add(edge, step)) {
			t.Fatalf("small differs at digit %d", i)
		}
	}
	if small(multiply(edge, edge)) {
		t.Error("small of the square")
	}
}
