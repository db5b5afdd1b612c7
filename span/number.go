package span

import (
	"slices"

	"rabbet/api"
	"rabbet/frac"
)

// safely calculates. A number that is too large leaves the calculation by a panic, which ends here and becomes its error.
func safely[T any](calculate func() (T, api.Errno)) (out T, e api.Errno) {
	defer func() {
		if recover() != nil {
			var none T
			out, e = none, api.ErrSpan
		}
	}()
	return calculate()
}

// keepShort leaves the calculation if a number has too many digits.
func keepShort(limit int, numbers ...frac.Rat) {
	for _, r := range numbers {
		if decimals(r.Num()) > limit || decimals(r.Den()) > limit {
			panic(api.ErrSpan)
		}
	}
}

func decimals(n frac.Int) int {
	text := n.String()
	if n.Sign() < 0 {
		return len(text) - 1
	}
	return len(text)
}

// kept returns a result of package frac, or leaves the calculation if there is none, as it is too large.
func kept(r frac.Rat, e api.Errno) frac.Rat {
	if e != api.OK {
		panic(e)
	}
	return r
}

func negative(r frac.Rat) bool {
	return r.Sign() < 0
}

// isBlank reports whether all numbers are 0.
func isBlank(numbers []frac.Rat) bool {
	return !slices.ContainsFunc(numbers, func(r frac.Rat) bool { return r.Sign() != 0 })
}

// summand is anything that can be multiplied by a fraction, and added.
type summand[T any] interface {
	plus(T) T
	times(frac.Rat) T
}

// combine adds up multiples of terms: of at least one, and each of them by its own factor.
func combine[T summand[T]](terms []T, factors []frac.Rat) T {
	sum := terms[0].times(factors[0])
	for i, x := range terms[1:] {
		sum = sum.plus(x.times(factors[i+1]))
	}
	return sum
}

// number is a fraction as a summand.
type number struct{ frac.Rat }

func (x number) plus(y number) number {
	return number{kept(x.Add(y.Rat))}
}

func (x number) times(factor frac.Rat) number {
	return number{kept(x.Mul(factor))}
}

// dot adds up the products of the numbers of two lists.
func dot(a, b []frac.Rat) frac.Rat {
	terms := make([]number, 0, len(a))
	for _, r := range a {
		terms = append(terms, number{r})
	}
	return combine(terms, b).Rat
}
