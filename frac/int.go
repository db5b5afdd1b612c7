package frac

import (
	"math"

	"rabbet/api"
)

// maxIntText is the greatest number of bytes that ParseInt reads.
const maxIntText = 35000

// Int is an integer. The zero value is 0.
type Int struct {
	negative bool // never of 0
	size     digits
}

func signed(negative bool, size digits) Int {
	return Int{negative && len(size) > 0, size}
}

// Whole returns n as an Int.
func Whole(n int64) Int {
	if n < 0 {
		return signed(true, natural(-uint64(n)))
	}
	return signed(false, natural(uint64(n)))
}

// ParseInt reads the canonical form of an integer.
func ParseInt(s string) (Int, api.Errno) {
	if len(s) > maxIntText {
		return Int{}, api.ErrLong
	}
	a, ok := readInt(s)
	if !ok {
		return Int{}, api.ErrForm
	}
	return sized(a.kept)
}

// readInt reads the canonical form of an integer of any size, and reports whether it is one.
func readInt(s string) (Int, bool) {
	negative := s != "" && s[0] == '-'
	if negative {
		s = s[1:]
	}
	if !isDecimal(s) || negative && s == "0" {
		return Int{}, false
	}
	return signed(negative, read(s)), true
}

// String returns the canonical form.
func (a Int) String() string {
	return string(a.write(nil))
}

func (a Int) write(text []byte) []byte {
	if a.negative {
		text = append(text, '-')
	}
	return write(text, a.size)
}

// Int64 returns the number and true if it is an int64.
func (a Int) Int64() (int64, bool) {
	n, ok := narrow(a.size)
	switch {
	case ok && a.negative && n <= -math.MinInt64:
		return int64(-n), true
	case ok && !a.negative && n <= math.MaxInt64:
		return int64(n), true
	}
	return 0, false
}

// Sign returns -1, 0 or 1.
func (a Int) Sign() int {
	if a.negative {
		return -1
	}
	return min(len(a.size), 1)
}

// Cmp returns the sign of a - b.
func (a Int) Cmp(b Int) int {
	switch {
	case a.negative && b.negative:
		return compare(b.size, a.size)
	case a.negative:
		return -1
	case b.negative:
		return 1
	}
	return compare(a.size, b.size)
}

// Neg returns -a.
func (a Int) Neg() Int {
	return signed(!a.negative, a.size)
}

// Add returns a + b.
func (a Int) Add(b Int) (Int, api.Errno) {
	return sized(func() Int { return a.plus(b).kept() })
}

// Sub returns a - b.
func (a Int) Sub(b Int) (Int, api.Errno) {
	return sized(func() Int { return a.minus(b).kept() })
}

// Mul returns a times b.
func (a Int) Mul(b Int) (Int, api.Errno) {
	return sized(func() Int { return a.times(b).kept() })
}

// Div returns q and r such that a = q b + r and 0 <= r < |b|.
func (a Int) Div(b Int) (Int, Int, api.Errno) {
	if b.zero() {
		return Int{}, Int{}, api.ErrZero
	}
	quotient, rest := divide(a.size, b.size)
	if a.negative && len(rest) > 0 {
		quotient = add(quotient, digits{1})
		rest = subtract(b.size, rest)
	}
	return signed(a.negative != b.negative, quotient), signed(false, rest), api.OK
}

// Gcd returns the greatest integer that divides both, or 0 if both are 0.
func Gcd(a, b Int) Int {
	return signed(false, gcd(a.size, b.size))
}

// kept returns the number, or leaves the calculation if it is not small.
func (a Int) kept() Int {
	keepSmall(a.size)
	return a
}

// The methods below do not care for the size of a result.

func (a Int) plus(b Int) Int {
	if a.negative == b.negative {
		return signed(a.negative, add(a.size, b.size))
	}
	if compare(a.size, b.size) < 0 {
		a, b = b, a
	}
	return signed(a.negative, subtract(a.size, b.size))
}

func (a Int) minus(b Int) Int {
	return a.plus(b.Neg())
}

func (a Int) times(b Int) Int {
	return signed(a.negative != b.negative, multiply(a.size, b.size))
}

func (a Int) zero() bool {
	return len(a.size) == 0
}
