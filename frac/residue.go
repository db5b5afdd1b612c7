package frac

import "math/bits"

// Primes are taken from just below two digits, so that numbers are read two digits at a time.
const (
	primeTop  = base * base
	primeBits = 59 // each prime that is used has more bits
)

// primeGaps is how far the greatest primes are below primeTop. Most systems need no others.
var primeGaps = [...]uint64{11, 33, 123, 137, 171, 251, 263, 291, 363, 369, 387, 399, 431, 461, 471, 497, 513, 537, 557, 581, 591, 629, 641, 669}

// primeBelow returns the greatest prime below n, which is at most primeTop.
func primeBelow(n uint64) uint64 {
	for _, gap := range primeGaps {
		if primeTop-gap < n {
			return primeTop - gap
		}
	}
	n--
	for !isPrime(n) {
		n--
	}
	return n
}

// isPrime tells the primes among the numbers above 37 and below 2^63, for which twelve strong tests decide (Sorenson and Webster).
func isPrime(n uint64) bool {
	for _, witness := range [...]uint64{2, 3, 5, 7, 11, 13, 17, 19, 23, 29, 31, 37} {
		if !strong(n, witness) {
			return false
		}
	}
	return true
}

// strong reports whether a power of the witness comes to 1 as it does modulo a prime (Miller and Rabin).
func strong(n, witness uint64) bool {
	if n%2 == 0 {
		return false
	}
	twos := bits.TrailingZeros64(n - 1)
	x := residue{1, n}
	for i := 63; i >= twos; i-- {
		x = x.times(x)
		if (n-1)>>i&1 == 1 {
			x = x.times(residue{witness, n})
		}
	}
	if x.value == 1 || x.value == n-1 {
		return true
	}
	for range twos - 1 {
		x = x.times(x)
		if x.value == n-1 {
			return true
		}
	}
	return false
}

// residue is the rest of an integer divided by a prime.
type residue struct {
	value, prime uint64
}

func residueOf(a Int, prime uint64) residue {
	n := len(a.size)
	var rest uint64
	if n%2 == 1 {
		n--
		rest = uint64(a.size[n])
	}
	for ; n > 0; n -= 2 {
		pair := uint64(a.size[n-1])*base + uint64(a.size[n-2])
		rest = timesPlus(rest, primeTop, pair, prime)
	}
	if a.negative && rest > 0 {
		rest = prime - rest
	}
	return residue{rest, prime}
}

// timesPlus returns the rest of a b + c, where a is less than the prime, and c is less than the prime or b.
func timesPlus(a, b, c, prime uint64) uint64 {
	high, low := bits.Mul64(a, b)
	low, carry := bits.Add64(low, c, 0)
	_, rest := bits.Div64(high+carry, low, prime)
	return rest
}

func (a residue) plus(b residue) residue {
	sum := a.value + b.value
	if sum >= a.prime {
		sum -= a.prime
	}
	return residue{sum, a.prime}
}

func (a residue) minus(b residue) residue {
	if a.value < b.value {
		a.value += a.prime
	}
	return residue{a.value - b.value, a.prime}
}

func (a residue) times(b residue) residue {
	return residue{timesPlus(a.value, b.value, 0, a.prime), a.prime}
}

// over returns a divided by b, which is not 0.
func (a residue) over(b residue) residue {
	return a.times(b.inverse())
}

// inverse goes Euclid's steps, while before times a is old modulo the prime, and now times a is rest.
func (a residue) inverse() residue {
	var before, now int64 = 0, 1
	old, rest := int64(a.prime), int64(a.value)
	for rest != 0 {
		q := old / rest
		old, rest = rest, old-q*rest
		before, now = now, before-q*now
	}
	if before < 0 {
		before += int64(a.prime)
	}
	return residue{uint64(before), a.prime}
}

func (a residue) zero() bool {
	return a.value == 0
}
