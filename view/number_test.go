package view

import (
	"math/rand"
	"strings"
	"testing"

	"rabbet/api"
	"rabbet/frac"
)

// power returns 10 to the power n as a fraction.
func power(t *testing.T, n int) frac.Rat {
	t.Helper()
	r, e := frac.Parse("1" + strings.Repeat("0", n))
	if e != api.OK {
		t.Fatal(e)
	}
	return r
}

// P6.1: a result of which a number is not small is ErrSize and nothing else. Arguments that are allowed never lead to one, so the calculation starts from others here.
func TestTooLarge(t *testing.T) {
	great, one := power(t, 30000), frac.Of(1)
	small, _ := one.Quo(great)
	for _, calculate := range []func() (Triple, api.Errno){
		func() (Triple, api.Errno) { return normal(Triple{small, one, great}) },
		func() (Triple, api.Errno) { return normal(Triple{one, times(great, great), one}) },
		func() (Triple, api.Errno) { return normal(Triple{one, over(small, great), one}) },
		func() (Triple, api.Errno) {
			r, _ := frac.Parse("1/" + strings.Repeat("9", 30000))
			return normal(Triple{one, sum(one, small, r), one})
		},
		func() (Triple, api.Errno) {
			r, _ := frac.Parse("1/" + strings.Repeat("9", 30000))
			return normal(Triple{one, minus(small, r), one})
		},
	} {
		p, e := answer(calculate)
		if e != api.ErrSize || !blank(p[:]) {
			t.Errorf("a number that is not small: %.20s, %d", p[1], e)
		}
	}
	if p, e := answer(func() (Triple, api.Errno) { return normal(Triple{one, great, small}) }); e != api.OK || p[1].Cmp(great) != 0 {
		t.Errorf("numbers that are small: %d", e)
	}
}

// grow returns a fraction of which numerator and denominator have the given numbers of digits.
func grow(r *rand.Rand, digits int) frac.Rat {
	for {
		text := func() string {
			out := []byte{byte('1' + r.Intn(9))}
			for len(out) < digits {
				out = append(out, byte('0'+r.Intn(10)))
			}
			return string(out)
		}
		if x, e := frac.Parse(text() + "/" + text()); e == api.OK {
			return x
		}
	}
}

// P6.1: what is calculated on the way stays far below the limit for arguments of 40 digits, so that no result that is small is taken for one that is not: even ten times as many digits lead to results.
func TestRoom(t *testing.T) {
	r := rand.New(rand.NewSource(60))
	point := func() Triple { return Triple{grow(r, 400), grow(r, 400), grow(r, 400)} }
	var from, to [4]Triple
	var five [5]Triple
	for i := range from {
		from[i], to[i] = point(), point()
	}
	for i := range five {
		five[i] = point()
	}
	if _, e := answer(func() (Map, api.Errno) { return normal(product(frame(to), inverse(frame(from)))) }); e != api.OK {
		t.Errorf("FromFour: %d", e)
	}
	if _, e := answer(func() (Conic, api.Errno) { return normal(through(five)) }); e != api.OK {
		t.Errorf("Through: %d", e)
	}
}
