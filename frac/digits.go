// Package frac is layer 1: integers and fractions of any size up to a limit, linear equations, and solutions that are nowhere negative.
package frac

// base is the number of values of one digit.
const base = 1_000_000_000

// width is the number of decimal digits that one digit stands for.
const width = 9

// digits is a number from 0 on: digits to the base, the lowest one first, with none that is 0 at the top. A function that returns digits does not change them afterwards, so numbers may share them.
type digits []uint32

// cut takes off the zeros at the top. The capacity ends where the digits do, so that appending to them never writes into what lies behind.
func cut(d []uint32) digits {
	n := len(d)
	for n > 0 && d[n-1] == 0 {
		n--
	}
	if n == 0 {
		return nil
	}
	return d[:n:n]
}

func natural(n uint64) digits {
	return cut([]uint32{uint32(n % base), uint32(n / base % base), uint32(n / base / base)})
}

// narrow returns the number as a machine word, if it is less than 10^19, as all are that an int64 can hold.
func narrow(d digits) (uint64, bool) {
	if len(d) > 3 || len(d) == 3 && d[2] > 9 {
		return 0, false
	}
	var n uint64
	for i := len(d) - 1; i >= 0; i-- {
		n = n*base + uint64(d[i])
	}
	return n, true
}

func isOne(d digits) bool {
	return len(d) == 1 && d[0] == 1
}

func compare(a, b digits) int {
	if len(a) != len(b) {
		if len(a) < len(b) {
			return -1
		}
		return 1
	}
	for i := len(a) - 1; i >= 0; i-- {
		if a[i] < b[i] {
			return -1
		}
		if a[i] > b[i] {
			return 1
		}
	}
	return 0
}

func add(a, b digits) digits {
	if len(a) < len(b) {
		a, b = b, a
	}
	out := make([]uint32, len(a)+1)
	var carry uint32
	for i, x := range a {
		sum := x + carry
		if i < len(b) {
			sum += b[i]
		}
		carry = 0
		if sum >= base {
			sum -= base
			carry = 1
		}
		out[i] = sum
	}
	out[len(a)] = carry
	return cut(out)
}

// subtract returns a - b, where b is at most a.
func subtract(a, b digits) digits {
	out := make([]uint32, len(a))
	var borrow uint32
	for i, x := range a {
		take := borrow
		if i < len(b) {
			take += b[i]
		}
		borrow = 0
		if x < take {
			x += base
			borrow = 1
		}
		out[i] = x - take
	}
	return cut(out)
}

func multiply(a, b digits) digits {
	if len(a) == 0 || len(b) == 0 {
		return nil
	}
	out := make([]uint32, len(a)+len(b))
	for i, x := range a {
		var carry uint64
		to := out[i : i+len(b)+1]
		for j, y := range b {
			sum := uint64(x)*uint64(y) + uint64(to[j]) + carry
			to[j] = uint32(sum % base)
			carry = sum / base
		}
		to[len(b)] = uint32(carry)
	}
	return cut(out)
}

// timesDigit returns the product with one more digit than d has, 0 or not.
func timesDigit(d digits, factor uint32) []uint32 {
	out := make([]uint32, len(d)+1)
	var carry uint64
	for i, x := range d {
		sum := uint64(x)*uint64(factor) + carry
		out[i] = uint32(sum % base)
		carry = sum / base
	}
	out[len(d)] = uint32(carry)
	return out
}

// twoTo returns a power of 2.
func twoTo(power int) digits {
	if power == 0 {
		return digits{1}
	}
	half := twoTo(power / 2)
	square := multiply(half, half)
	if power%2 == 1 {
		return add(square, square)
	}
	return square
}

// bound returns a number of bits that the number does not need more than.
func bound(d digits) int {
	if len(d) == 0 {
		return 0
	}
	bits := 30 * (len(d) - 1)
	for x := d[len(d)-1]; x > 0; x /= 2 {
		bits++
	}
	return bits
}

// decimals returns how many decimal digits the number has.
func decimals(d digits) int {
	if len(d) == 0 {
		return 1
	}
	n := width * (len(d) - 1)
	for x := d[len(d)-1]; x > 0; x /= 10 {
		n++
	}
	return n
}

func isDecimal(s string) bool {
	for i := range len(s) {
		if s[i] < '0' || s[i] > '9' {
			return false
		}
	}
	return s != "" && (s[0] != '0' || s == "0")
}

// read returns the number that isDecimal allows.
func read(s string) digits {
	out := make([]uint32, 0, len(s)/width+1)
	for end := len(s); end > 0; end -= width {
		var x uint32
		for i := max(0, end-width); i < end; i++ {
			x = x*10 + uint32(s[i]-'0')
		}
		out = append(out, x)
	}
	return cut(out)
}

// write appends the decimal digits to text.
func write(text []byte, d digits) []byte {
	n := decimals(d)
	start := len(text)
	text = append(text, make([]byte, n)...)
	text[start] = '0'
	at := start + n - 1
	for _, x := range d {
		for range min(width, at-start+1) {
			text[at] = byte('0' + x%10)
			x /= 10
			at--
		}
	}
	return text
}
