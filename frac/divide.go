package frac

import "math/bits"

// divide returns the quotient and the rest of a and b, where b is not 0.
func divide(a, b digits) (digits, digits) {
	if compare(a, b) < 0 {
		return nil, a
	}
	if len(a) <= 2 {
		x, _ := narrow(a)
		y, _ := narrow(b)
		return natural(x / y), natural(x % y)
	}
	if len(b) == 1 {
		quotient, rest := overDigit(a, b[0])
		return quotient, natural(uint64(rest))
	}
	return divideLong(a, b)
}

func overDigit(a []uint32, b uint32) (digits, uint32) {
	out := make([]uint32, len(a))
	var rest uint64
	for i := len(a) - 1; i >= 0; i-- {
		x := rest*base + uint64(a[i])
		out[i] = uint32(x / uint64(b))
		rest = x % uint64(b)
	}
	return cut(out), uint32(rest)
}

// divideLong is the division of the schools (Knuth's algorithm D): both numbers are multiplied first, so that the top digit of b is at least half of the base and guesses are good.
func divideLong(a, b digits) (digits, digits) {
	n := len(b)
	factor := base / (b[n-1] + 1)
	rest := timesDigit(a, factor)
	by := timesDigit(b, factor)[:n]
	quotient := make([]uint32, len(a)-n+1)
	for j := len(a) - n; j >= 0; j-- {
		part := rest[j : j+n+1]
		q := guess(part, by)
		if q > 0 && takeOff(part, by, q) {
			putBack(part, by)
			q--
		}
		quotient[j] = q
	}
	last, _ := overDigit(rest[:n], factor)
	return cut(quotient), last
}

// guess returns the digit of the quotient, or that digit plus 1.
func guess(part, by []uint32) uint32 {
	n := len(by)
	high := uint64(part[n])*base + uint64(part[n-1])
	top := uint64(by[n-1])
	q, rest := high/top, high%top
	for q >= base || q*uint64(by[n-2]) > rest*base+uint64(part[n-2]) {
		q--
		rest += top
		if rest >= base {
			break
		}
	}
	return uint32(q)
}

// takeOff takes q times by off part, but for its top digit, which is 0 then and not read again. It reports whether that was too much.
func takeOff(part, by []uint32, q uint32) bool {
	var carry uint64
	for i, x := range by {
		product := uint64(x)*uint64(q) + carry
		carry = product / base
		low := uint32(product % base)
		if part[i] < low {
			part[i] += base
			carry++
		}
		part[i] -= low
	}
	return uint64(part[len(by)]) < carry
}

func putBack(part, by []uint32) {
	var carry uint32
	for i, x := range by {
		sum := part[i] + x + carry
		carry = 0
		if sum >= base {
			sum -= base
			carry = 1
		}
		part[i] = sum
	}
}

// gcd returns the greatest common divisor (0 of two zeros). Of long numbers it takes many steps of Euclid's at once, as long as the first digits tell the quotients (Lehmer).
func gcd(a, b digits) digits {
	if isOne(a) || isOne(b) {
		return digits{1}
	}
	if compare(a, b) < 0 {
		a, b = b, a
	}
	if len(a) > 2 {
		a, b = clone(a), clone(b)
	}
	for len(a) > 2 && len(b) > 0 {
		x, y := leading(a, b)
		if m, ok := steps(x, y); ok {
			a, b = combine(a, b, m)
		} else {
			_, rest := divide(a, b)
			a, b = b, rest
		}
	}
	if len(b) == 0 {
		return a
	}
	x, _ := narrow(a)
	y, _ := narrow(b)
	for y != 0 {
		x, y = y, x%y
	}
	return natural(x)
}

func clone(d digits) digits {
	return cut(append(make([]uint32, 0, len(d)), d...))
}

// leading returns the first bits of a, at most 62, and the bits of b at the same places. a has at least three digits, and b is at most a.
func leading(a, b digits) (int64, int64) {
	n := len(a)
	high, low := topThree(a, n)
	shift := 0
	if high > 0 {
		shift = bits.Len64(high) + 2
	} else {
		shift = max(0, bits.Len64(low)-62)
	}
	x := high<<(64-shift) | low>>shift
	high, low = topThree(b, n)
	return int64(x), int64(high<<(64-shift) | low>>shift)
}

// topThree returns the digits n - 1 to n - 3 as one number of two words.
func topThree(d digits, n int) (uint64, uint64) {
	var x [3]uint64
	for i := range x {
		if n-3+i < len(d) {
			x[i] = uint64(d[n-3+i])
		}
	}
	high, low := bits.Mul64(x[2]*base+x[1], base)
	low, carry := bits.Add64(low, x[0], 0)
	return high + carry, low
}

// moves is what steps of Euclid's make of two numbers: the multiples of both of which the new ones are made.
type moves struct {
	aa, ab, ba, bb int64
}

// steps returns the steps that are the same whatever follows the leading bits x and y; false if there are none. The squares of the multiples are less than x, since the rests are greater than they are; so their products with digits can be added in a word.
func steps(x, y int64) (moves, bool) {
	m := moves{1, 0, 0, 1}
	for y+m.ba != 0 && y+m.bb != 0 {
		q := (x + m.aa) / (y + m.ba)
		if q != (x+m.ab)/(y+m.bb) {
			break
		}
		m = moves{m.ba, m.bb, m.aa - q*m.ba, m.ab - q*m.bb}
		x, y = y, x-q*y
	}
	return m, m.ab != 0
}

// combine makes the moves in place.
func combine(a, b digits, m moves) (digits, digits) {
	long := a
	short := append(b, make(digits, len(a)-len(b))...)
	var carryA, carryB int64
	for i := range long {
		x, y := int64(long[i]), int64(short[i])
		long[i], carryA = carried(m.aa*x + m.ab*y + carryA)
		short[i], carryB = carried(m.ba*x + m.bb*y + carryB)
	}
	return cut(long), cut(short)
}

func carried(sum int64) (uint32, int64) {
	digit := sum % base
	if digit < 0 {
		digit += base
	}
	return uint32(digit), (sum - digit) / base
}
