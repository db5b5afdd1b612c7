package frac

import (
	"strings"

	"rabbet/api"
)

// maxRatText is the greatest number of bytes that Parse reads.
const maxRatText = 70000

// Rat is a fraction in lowest terms. The zero value is 0.
type Rat struct {
	num Int
	den digits // empty for 1, so that the zero value has a denominator, too
}

// reduced returns the fraction of num and den, which is not 0.
func reduced(num Int, den digits) Rat {
	common := gcd(num.size, den)
	if !isOne(common) {
		num.size, _ = divide(num.size, common)
		den, _ = divide(den, common)
	}
	return lowest(num, den)
}

// lowest returns the fraction of num and den, which are in lowest terms.
func lowest(num Int, den digits) Rat {
	if isOne(den) {
		return Rat{num: num}
	}
	return Rat{num, den}
}

func (r Rat) lower() digits {
	if len(r.den) == 0 {
		return digits{1}
	}
	return r.den
}

// Of returns n as a fraction.
func Of(n int64) Rat {
	return Rat{num: Whole(n)}
}

// From returns a as a fraction.
func From(a Int) Rat {
	return Rat{num: a}
}

// Make returns a divided by b.
func Make(a, b int64) (Rat, api.Errno) {
	return Of(a).Quo(Of(b))
}

// Parse reads the canonical form of a fraction.
func Parse(s string) (Rat, api.Errno) {
	if len(s) > maxRatText {
		return Rat{}, api.ErrLong
	}
	r, ok := readRat(s)
	if !ok {
		return Rat{}, api.ErrForm
	}
	return sized(r.kept)
}

// readRat reads the canonical form of a fraction of any size, and reports whether it is one.
func readRat(s string) (Rat, bool) {
	above, below, divided := strings.Cut(s, "/")
	num, ok := readInt(above)
	if !ok || !divided {
		return Rat{num: num}, ok
	}
	if !isDecimal(below) || below == "0" || below == "1" {
		return Rat{}, false
	}
	den := read(below)
	if !isOne(gcd(num.size, den)) {
		return Rat{}, false
	}
	return Rat{num, den}, true
}

// String returns the canonical form.
func (r Rat) String() string {
	text := r.num.write(nil)
	if len(r.den) > 0 {
		text = append(text, '/')
		text = write(text, r.den)
	}
	return string(text)
}

// Num returns the numerator.
func (r Rat) Num() Int {
	return r.num
}

// Den returns the denominator.
func (r Rat) Den() Int {
	return signed(false, r.lower())
}

// Sign returns -1, 0 or 1.
func (r Rat) Sign() int {
	return r.num.Sign()
}

// Cmp returns the sign of r - s.
func (r Rat) Cmp(s Rat) int {
	if r.Sign() != s.Sign() || compare(r.den, s.den) == 0 {
		return r.num.Cmp(s.num)
	}
	return r.num.times(s.Den()).Cmp(s.num.times(r.Den()))
}

// Neg returns -r.
func (r Rat) Neg() Rat {
	return Rat{r.num.Neg(), r.den}
}

// Add returns r + s.
func (r Rat) Add(s Rat) (Rat, api.Errno) {
	return sized(func() Rat { return r.plus(s).kept() })
}

// Sub returns r - s.
func (r Rat) Sub(s Rat) (Rat, api.Errno) {
	return sized(func() Rat { return r.plus(s.Neg()).kept() })
}

// Mul returns r times s.
func (r Rat) Mul(s Rat) (Rat, api.Errno) {
	return sized(func() Rat { return r.times(s).kept() })
}

// Quo returns r divided by s.
func (r Rat) Quo(s Rat) (Rat, api.Errno) {
	if s.Sign() == 0 {
		return Rat{}, api.ErrZero
	}
	inverse := lowest(signed(s.num.negative, s.lower()), s.num.size)
	return r.Mul(inverse)
}

// Floor returns the greatest integer that is at most r.
func (r Rat) Floor() Int {
	floor, _, _ := r.num.Div(r.Den())
	return floor
}

// kept returns the fraction, or leaves the calculation if it is not small.
func (r Rat) kept() Rat {
	keepSmall(r.num.size)
	keepSmall(r.den)
	return r
}

// plus takes common factors out of the denominators before it multiplies, which leaves smaller numbers to be reduced.
func (r Rat) plus(s Rat) Rat {
	if len(r.den) == 0 && len(s.den) == 0 {
		return Rat{num: r.num.plus(s.num)}
	}
	a, b := r.lower(), s.lower()
	common := gcd(a, b)
	a, _ = divide(a, common)
	b, _ = divide(b, common)
	num := r.num.times(signed(false, b)).plus(s.num.times(signed(false, a)))
	rest := reduced(num, common)
	return lowest(rest.num, multiply(multiply(a, b), rest.lower()))
}

// times reduces before it multiplies, as plus does.
func (r Rat) times(s Rat) Rat {
	x := reduced(r.num, s.lower())
	y := reduced(s.num, r.lower())
	return lowest(x.num.times(y.num), multiply(x.lower(), y.lower()))
}
