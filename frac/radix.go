package frac

// radix tells integers by their residues modulo some primes. It writes them to mixed bases: a digit, then one that counts multiples of the first prime, then one that counts those of the product of the first two, and so on. A digit is at most half of its prime in absolute value, so that the uppermost one has the integer's sign.
type radix struct {
	primes   []uint64
	inverses []uint64 // of the product of the primes before, modulo each prime
}

func newRadix(primes []uint64) radix {
	inverses := make([]uint64, len(primes))
	for i, prime := range primes {
		product := uint64(1)
		for _, before := range primes[:i] {
			product = timesPlus(product, before, 0, prime)
		}
		inverses[i] = residue{product, prime}.inverse().value
	}
	return radix{primes, inverses}
}

// digits returns the digits of the integer with these residues.
func (x radix) digits(residues []uint64) []int64 {
	out := make([]int64, 0, len(residues))
	for i, prime := range x.primes {
		rest := residue{residues[i], prime}.minus(residue{x.value(out, prime), prime})
		digit := int64(rest.times(residue{x.inverses[i], prime}).value)
		if digit > int64(prime/2) {
			digit -= int64(prime)
		}
		out = append(out, digit)
	}
	return out
}

// value returns the residue of the integer with these digits.
func (x radix) value(list []int64, prime uint64) uint64 {
	var rest uint64
	for i := len(list) - 1; i >= 0; i-- {
		digit := list[i]
		if digit < 0 {
			digit += int64(prime)
		}
		rest = timesPlus(rest, x.primes[i], uint64(digit), prime)
	}
	return rest
}

// whole returns the integer with these residues.
func (x radix) whole(residues []uint64) Int {
	list := x.digits(residues)
	var out Int
	for i := len(list) - 1; i >= 0; i-- {
		out = out.times(signed(false, natural(x.primes[i]))).plus(Whole(list[i]))
	}
	return out
}

// sign returns the sign of the integer with these residues.
func (x radix) sign(residues []uint64) int {
	list := x.digits(residues)
	for i := len(list) - 1; i >= 0; i-- {
		if list[i] != 0 {
			return Whole(list[i]).Sign()
		}
	}
	return 0
}
