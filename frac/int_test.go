package frac_test

import (
	"math"
	"math/big"
	"math/rand"
	"reflect"
	"strings"
	"testing"

	"rabbet/api"
	"rabbet/frac"
)

// limit is the least integer that is not small.
func limit() *big.Int {
	return new(big.Int).Lsh(big.NewInt(1), api.MaxBits)
}

func parseInt(t *testing.T, s string) frac.Int {
	t.Helper()
	a, e := frac.ParseInt(s)
	if e != api.OK {
		t.Fatalf("ParseInt of %d bytes: %d", len(s), e)
	}
	return a
}

func greatest(t *testing.T) frac.Int {
	t.Helper()
	return parseInt(t, new(big.Int).Sub(limit(), big.NewInt(1)).String())
}

// power returns 2 to the power n.
func power(t *testing.T, n uint) frac.Int {
	t.Helper()
	return parseInt(t, new(big.Int).Lsh(big.NewInt(1), n).String())
}

func randomInt(r *rand.Rand) *big.Int {
	a := new(big.Int).Rand(r, new(big.Int).Lsh(big.NewInt(1), uint(1+r.Intn(300))))
	if r.Intn(2) == 0 {
		a.Neg(a)
	}
	return a
}

// P1.1: Whole, String, Int64, Sign.
func TestWhole(t *testing.T) {
	for _, n := range []int64{0, 1, -1, 999_999_999, 1_000_000_000, -1_000_000_001, 1e18, -1e18, math.MaxInt64, math.MinInt64} {
		a := frac.Whole(n)
		if a.String() != big.NewInt(n).String() {
			t.Errorf("String of %d: %s", n, a)
		}
		if m, ok := a.Int64(); m != n || !ok {
			t.Errorf("Int64 of %d: %d, %t", n, m, ok)
		}
		if a.Sign() != big.NewInt(n).Sign() {
			t.Errorf("Sign of %d: %d", n, a.Sign())
		}
		if !reflect.DeepEqual(parseInt(t, a.String()), a) {
			t.Errorf("ParseInt of %d is another value", n)
		}
	}
	var zero frac.Int
	if zero.String() != "0" || zero.Sign() != 0 || zero.Cmp(frac.Whole(0)) != 0 || !reflect.DeepEqual(zero, frac.Whole(0)) {
		t.Errorf("the zero value is %s", zero)
	}
}

func TestInt64OutOfRange(t *testing.T) {
	for _, s := range []string{"9223372036854775808", "-9223372036854775809", "18446744073709551615", "18446744073709551616", "-18446744073709551616", "19000000000000000000", "1000000000000000000000000000"} {
		if n, ok := parseInt(t, s).Int64(); n != 0 || ok {
			t.Errorf("Int64 of %s: %d, %t", s, n, ok)
		}
	}
}

// P1.1: the errors of ParseInt, and their order.
func TestParseIntErrors(t *testing.T) {
	above, below := limit(), new(big.Int).Sub(limit(), big.NewInt(1))
	tests := []struct {
		text string
		want api.Errno
	}{
		{"0", api.OK}, {"-1", api.OK}, {"10", api.OK},
		{"", api.ErrForm}, {"-", api.ErrForm}, {"-0", api.ErrForm}, {"00", api.ErrForm}, {"01", api.ErrForm}, {"-01", api.ErrForm},
		{"+1", api.ErrForm}, {"--1", api.ErrForm}, {"1 ", api.ErrForm}, {" 1", api.ErrForm}, {"1-", api.ErrForm}, {"1/1", api.ErrForm},
		{"0x1", api.ErrForm}, {"1e3", api.ErrForm}, {"1\n", api.ErrForm}, {"1\x00", api.ErrForm}, {"\u0661", api.ErrForm}, {"1.0", api.ErrForm}, {"1_000", api.ErrForm},
		{":", api.ErrForm}, {"1/", api.ErrForm}, {"1000000000:", api.ErrForm},
		{below.String(), api.OK}, {"-" + below.String(), api.OK},
		{above.String(), api.ErrSize}, {"-" + above.String(), api.ErrSize},
		{strings.Repeat("9", 35000), api.ErrSize}, {"-" + strings.Repeat("9", 34999), api.ErrSize},
		{strings.Repeat("0", 35000), api.ErrForm}, {strings.Repeat("9", 34999) + "x", api.ErrForm},
		{strings.Repeat("9", 35001), api.ErrLong}, {"-" + strings.Repeat("9", 35000), api.ErrLong}, {strings.Repeat("x", 35001), api.ErrLong},
	}
	for _, x := range tests {
		a, e := frac.ParseInt(x.text)
		if e != x.want {
			t.Errorf("ParseInt of %.20q (%d bytes): %d, not %d", x.text, len(x.text), e, x.want)
		}
		if e != api.OK && !reflect.DeepEqual(a, frac.Int{}) {
			t.Errorf("ParseInt of %.20q: %.20s next to an error", x.text, a)
		}
		if e == api.OK && a.String() != x.text {
			t.Errorf("ParseInt of %.20q: String differs", x.text)
		}
	}
}

// P1.1: the operations, against another implementation.
func TestIntOperations(t *testing.T) {
	r := rand.New(rand.NewSource(6))
	for range 3000 {
		x, y := randomInt(r), randomInt(r)
		a, b := parseInt(t, x.String()), parseInt(t, y.String())
		if got, e := a.Add(b); e != api.OK || got.String() != new(big.Int).Add(x, y).String() {
			t.Fatalf("%s + %s: %s, %d", x, y, got, e)
		}
		if got, e := a.Sub(b); e != api.OK || got.String() != new(big.Int).Sub(x, y).String() {
			t.Fatalf("%s - %s: %s, %d", x, y, got, e)
		}
		if got, e := a.Mul(b); e != api.OK || got.String() != new(big.Int).Mul(x, y).String() {
			t.Fatalf("%s * %s: %s, %d", x, y, got, e)
		}
		if got := a.Neg(); got.String() != new(big.Int).Neg(x).String() {
			t.Fatalf("- %s: %s", x, got)
		}
		if a.Cmp(b) != x.Cmp(y) || a.Cmp(a) != 0 {
			t.Fatalf("Cmp of %s and %s: %d", x, y, a.Cmp(b))
		}
		if got := frac.Gcd(a, b); got.String() != new(big.Int).GCD(nil, nil, new(big.Int).Abs(x), new(big.Int).Abs(y)).String() {
			t.Fatalf("Gcd of %s and %s: %s", x, y, got)
		}
		if y.Sign() == 0 {
			continue
		}
		q, m := new(big.Int).DivMod(x, y, new(big.Int)) // Euclid's division
		if p, n, e := a.Div(b); e != api.OK || p.String() != q.String() || n.String() != m.String() {
			t.Fatalf("%s / %s: %s, %s, %d", x, y, p, n, e)
		}
	}
}

func TestIntDiv(t *testing.T) {
	tests := [][4]int64{
		{-7, 2, -4, 1}, {-7, -2, 4, 1}, {7, -2, -3, 1}, {7, 2, 3, 1},
		{-6, 3, -2, 0}, {-6, -3, 2, 0}, {0, 5, 0, 0}, {0, -5, 0, 0},
		{-1, 5, -1, 4}, {-1, -5, 1, 4}, {1, -5, 0, 1}, {4, 5, 0, 4},
		{math.MinInt64, 1, math.MinInt64, 0}, {math.MinInt64 + 1, -1, math.MaxInt64, 0},
	}
	for _, x := range tests {
		q, r, e := frac.Whole(x[0]).Div(frac.Whole(x[1]))
		if q.Cmp(frac.Whole(x[2])) != 0 || r.Cmp(frac.Whole(x[3])) != 0 || e != api.OK {
			t.Errorf("%d / %d: %s, %s, %d", x[0], x[1], q, r, e)
		}
	}
	for _, n := range []int64{0, 1, -1} {
		q, r, e := frac.Whole(n).Div(frac.Int{})
		if e != api.ErrZero || q.Sign() != 0 || r.Sign() != 0 {
			t.Errorf("%d / 0: %s, %s, %d", n, q, r, e)
		}
	}
	q, r, e := greatest(t).Neg().Div(frac.Whole(-1))
	if e != api.OK || r.Sign() != 0 || q.Cmp(greatest(t)) != 0 {
		t.Error("the least small integer / -1")
	}
}

func TestGcdOfZeros(t *testing.T) {
	tests := [][3]int64{{0, 0, 0}, {0, -5, 5}, {5, 0, 5}, {-12, 18, 6}, {-12, -18, 6}, {1, 0, 1}, {7, 7, 7}}
	for _, x := range tests {
		got := frac.Gcd(frac.Whole(x[0]), frac.Whole(x[1]))
		if !reflect.DeepEqual(got, frac.Whole(x[2])) {
			t.Errorf("Gcd of %d and %d: %s", x[0], x[1], got)
		}
	}
}

// P1.1: results just below and just above the greatest small number.
func TestIntLimit(t *testing.T) {
	top, one := greatest(t), frac.Whole(1)
	half := power(t, 50000)
	tooLarge := []func() (frac.Int, api.Errno){
		func() (frac.Int, api.Errno) { return top.Add(one) },
		func() (frac.Int, api.Errno) { return one.Add(top) },
		func() (frac.Int, api.Errno) { return top.Add(top) },
		func() (frac.Int, api.Errno) { return top.Neg().Sub(one) },
		func() (frac.Int, api.Errno) { return top.Sub(frac.Whole(-1)) },
		func() (frac.Int, api.Errno) { return half.Mul(half) },
		func() (frac.Int, api.Errno) { return half.Mul(half.Neg()) },
		func() (frac.Int, api.Errno) { return top.Mul(top) },
	}
	for i, f := range tooLarge {
		if a, e := f(); e != api.ErrSize || !reflect.DeepEqual(a, frac.Int{}) {
			t.Errorf("too large %d: %.20s, %d", i, a, e)
		}
	}
	less, _ := half.Sub(one)
	more, _ := half.Add(one)
	product, e := less.Mul(more) // 2^100000 - 1
	if e != api.OK || product.Cmp(top) != 0 {
		t.Errorf("(h - 1) (h + 1): %d", e)
	}
	if a, e := top.Sub(top); e != api.OK || a.Sign() != 0 {
		t.Errorf("top - top: %d", e)
	}
	if a, e := top.Add(frac.Int{}); e != api.OK || a.Cmp(top) != 0 {
		t.Errorf("top + 0: %d", e)
	}
	if a, e := top.Neg().Add(one); e != api.OK || a.Sign() != -1 {
		t.Errorf("1 - top: %d", e)
	}
	if a, e := power(t, 49999).Mul(half); e != api.OK || a.Cmp(power(t, 99999)) != 0 {
		t.Errorf("2^49999 2^50000: %d", e)
	}
	if top.Cmp(top.Neg()) != 1 || top.Neg().Cmp(top) != -1 || top.Cmp(power(t, 99999)) != 1 || top.Neg().Cmp(frac.Int{}) != -1 {
		t.Error("Cmp of large numbers")
	}
}

// Values are independent of what is calculated with copies of them.
func TestIntCopies(t *testing.T) {
	a := parseInt(t, "-123456789012345678901234567890")
	copied := a
	n, _ := a.Neg().Add(frac.Whole(1))
	n.Mul(n)
	n.Div(a)
	frac.Gcd(a, n)
	if a.String() != "-123456789012345678901234567890" || copied.Cmp(a) != 0 {
		t.Errorf("a number was changed: %s, %s", a, copied)
	}
}
