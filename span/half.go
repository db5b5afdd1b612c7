package span

import (
	"slices"

	"rabbet/api"
	"rabbet/frac"
)

// CheckHalf tells what is wrong with a half-space.
func CheckHalf(h Half) api.Errno {
	if !inSpace(len(h.Normal)) {
		return api.ErrSpan
	}
	_, e := safely(func() (bool, api.Errno) {
		keepShort(maxDecimalsHalf, h.numbers()...)
		return true, api.OK
	})
	return e
}

// checkHalves tells what is wrong with a list of half-spaces.
func checkHalves(halves []Half) api.Errno {
	switch {
	case len(halves) == 0:
		return api.ErrNone
	case len(halves) > maxItems:
		return api.ErrLong
	}
	for _, h := range halves {
		if e := CheckHalf(h); e != api.OK {
			return e
		}
		if len(h.Normal) != len(halves[0].Normal) {
			return api.ErrShape
		}
	}
	return api.OK
}

// numbers returns all numbers of the half-space, Least last.
func (h Half) numbers() []frac.Rat {
	return append(slices.Clone(h.Normal), h.Least)
}

func (h Half) plus(other Half) Half {
	return Half{point(h.Normal).plus(other.Normal), kept(h.Least.Add(other.Least))}
}

func (h Half) times(factor frac.Rat) Half {
	return Half{point(h.Normal).times(factor), kept(h.Least.Mul(factor))}
}

// contains reports whether a point is in the half-space.
func (h Half) contains(p point) bool {
	return dot(h.Normal, p).Cmp(h.Least) >= 0
}

// Helly returns a point that is in all half-spaces.
func Helly(halves []Half) ([]frac.Rat, bool, api.Errno) {
	if e := checkHalves(halves); e != api.OK {
		return nil, false, e
	}
	refusal, e := safely(against(halves).refusal)
	if e != api.OK {
		return nil, false, api.OK
	}
	return refusal[:len(refusal)-1], true, api.OK
}

// Refuse returns a refusal of half-spaces. It is not 0 at independent columns of d + 1 numbers alone.
func Refuse(halves []Half) ([]frac.Rat, bool, api.Errno) {
	if e := checkHalves(halves); e != api.OK {
		return nil, false, e
	}
	weights, e := safely(against(halves).plain)
	return weights, e == api.OK, api.OK
}

// Refuses reports whether weights are a refusal of half-spaces.
func Refuses(halves []Half, weights []frac.Rat) bool {
	is, _ := safely(func() (bool, api.Errno) {
		if e := checkHalves(halves); e != api.OK || len(weights) != len(halves) {
			return false, e
		}
		keepShort(maxDecimals, weights...)
		used := 0
		for _, w := range weights {
			if w.Sign() != 0 {
				used++
			}
		}
		sum := combine(halves, weights)
		return used <= len(sum.Normal)+1 && !slices.ContainsFunc(weights, negative) && isBlank(sum.Normal) && sum.Least.Sign() > 0, api.OK
	})
	return is
}

// InAll reports whether a point is in all half-spaces.
func InAll(halves []Half, p []frac.Rat) (bool, api.Errno) {
	return safely(func() (bool, api.Errno) {
		if e := checkHalves(halves); e != api.OK {
			return false, e
		}
		if len(p) != len(halves[0].Normal) {
			return false, api.ErrShape
		}
		keepShort(maxDecimals, p...)
		return !slices.ContainsFunc(halves, func(h Half) bool { return !h.contains(p) }), api.OK
	})
}
