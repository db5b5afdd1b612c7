package view

import (
	"rabbet/api"
	"rabbet/frac"
)

// maxDecimals is the greatest number of digits that a numerator or a denominator of an argument has.
const maxDecimals = 40

// keepShort leaves the calculation if an argument's number has too many digits.
func keepShort(r frac.Rat) {
	if decimals(r.Num()) > maxDecimals || decimals(r.Den()) > maxDecimals {
		panic(api.ErrSize)
	}
}

func decimals(n frac.Int) int {
	text := n.String()
	if n.Sign() < 0 {
		return len(text) - 1
	}
	return len(text)
}

// kept returns a result of package frac, or leaves the calculation if there is none, as it is too large.
func kept(r frac.Rat, e api.Errno) frac.Rat {
	if e != api.OK {
		panic(e)
	}
	return r
}

func times(a, b frac.Rat) frac.Rat {
	return kept(a.Mul(b))
}

func minus(a, b frac.Rat) frac.Rat {
	return kept(a.Sub(b))
}

func over(a, b frac.Rat) frac.Rat {
	return kept(a.Quo(b))
}

func sum(terms ...frac.Rat) frac.Rat {
	var total frac.Rat
	for _, x := range terms {
		total = kept(total.Add(x))
	}
	return total
}

// answer looks at what is given, one after the other, and calculates if nothing is wrong with any of it. Numbers that are too large leave by a panic, which it turns into their error.
func answer[T any](calculate func() (T, api.Errno), given ...figure) (out T, e api.Errno) {
	defer func() {
		if recover() != nil {
			e = api.ErrSize
		}
	}()
	for _, f := range given {
		if e := f.fault(); e != api.OK {
			return out, e
		}
	}
	return calculate()
}
