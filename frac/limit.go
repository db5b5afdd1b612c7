package frac

import "rabbet/api"

// limitLen is how many digits 2^api.MaxBits has.
const limitLen = 3345

// limitHead is the first digits of 2^api.MaxBits: nearly all numbers differ from it there, and need not be compared with all of it.
var limitHead = [...]uint32{9990020, 930143845, 79440327, 643300335}

// small reports whether the number is less than 2^api.MaxBits.
func small(d digits) bool {
	if len(d) != limitLen {
		return len(d) < limitLen
	}
	for i, x := range limitHead {
		if y := d[limitLen-1-i]; y != x {
			return y < x
		}
	}
	return compare(d, twoTo(api.MaxBits)) < 0
}

// keepSmall leaves the calculation if the number is not small.
func keepSmall(d digits) {
	if !small(d) {
		panic(api.ErrSize)
	}
}

// sized calculates, and turns the panic of keepSmall into its error.
func sized[T any](calculate func() T) (out T, e api.Errno) {
	defer func() {
		if recover() != nil {
			var none T
			out, e = none, api.ErrSize
		}
	}()
	return calculate(), api.OK
}
