package frac_test

import (
	"math"
	"math/big"
	"math/rand"
	"reflect"
	"strings"
	"testing"

	"rabbet/api"
	"rabbet/frac"
)

func parse(t *testing.T, s string) frac.Rat {
	t.Helper()
	r, e := frac.Parse(s)
	if e != api.OK {
		t.Fatalf("Parse of %.20q (%d bytes): %d", s, len(s), e)
	}
	return r
}

func randomRat(r *rand.Rand) *big.Rat {
	den := randomInt(r)
	if den.Sign() == 0 {
		den.SetInt64(1)
	}
	num := randomInt(r)
	if r.Intn(3) == 0 { // a denominator that others have, too
		den.SetInt64(int64(1 + r.Intn(12)))
	}
	return new(big.Rat).SetFrac(num, den)
}

// text is the canonical form.
func text(r *big.Rat) string {
	return r.RatString()
}

// P1.2: Of, From, Make, Num, Den, String, Floor, Sign.
func TestMake(t *testing.T) {
	tests := []struct {
		a, b int64
		want string
	}{
		{4, -6, "-2/3"}, {-4, -6, "2/3"}, {0, -5, "0"}, {6, 3, "2"}, {-6, 3, "-2"}, {1, 7, "1/7"},
		{math.MinInt64, math.MinInt64, "1"}, {math.MinInt64, -1, "9223372036854775808"}, {1, math.MinInt64, "-1/9223372036854775808"},
		{math.MaxInt64, math.MinInt64, "-9223372036854775807/9223372036854775808"},
	}
	for _, x := range tests {
		r, e := frac.Make(x.a, x.b)
		if r.String() != x.want || e != api.OK {
			t.Errorf("Make(%d, %d): %s, %d", x.a, x.b, r, e)
		}
		if !reflect.DeepEqual(parse(t, x.want), r) {
			t.Errorf("Parse of %s is another value", x.want)
		}
	}
	for _, n := range []int64{0, 1, -3} {
		if r, e := frac.Make(n, 0); e != api.ErrZero || !reflect.DeepEqual(r, frac.Rat{}) {
			t.Errorf("Make(%d, 0): %s, %d", n, r, e)
		}
	}
	var zero frac.Rat
	if zero.String() != "0" || zero.Den().String() != "1" || zero.Num().Sign() != 0 || zero.Sign() != 0 || zero.Floor().Sign() != 0 {
		t.Errorf("the zero value is %s", zero)
	}
	if !reflect.DeepEqual(frac.Of(0), zero) || frac.Of(-5).String() != "-5" || frac.Of(math.MinInt64).Num().Cmp(frac.Whole(math.MinInt64)) != 0 {
		t.Error("Of")
	}
	a := parseInt(t, "-123456789012345678901234567890")
	if r := frac.From(a); r.Num().Cmp(a) != 0 || r.Den().Cmp(frac.Whole(1)) != 0 {
		t.Errorf("From of %s: %s", a, r)
	}
}

func TestFloor(t *testing.T) {
	for s, want := range map[string]string{"-7/2": "-4", "7/2": "3", "-1/3": "-1", "1/3": "0", "5": "5", "-5": "-5", "0": "0", "-1000000000000000000001/2": "-500000000000000000001"} {
		if got := parse(t, s).Floor(); got.String() != want {
			t.Errorf("Floor of %s: %s", s, got)
		}
	}
}

// P1.2: the errors of Parse, and their order.
func TestParseErrors(t *testing.T) {
	above, below := limit().String(), new(big.Int).Sub(limit(), big.NewInt(1)).String()
	nines := func(n int) string { return strings.Repeat("9", n) }
	tests := []struct {
		text string
		want api.Errno
	}{
		{"0", api.OK}, {"-3", api.OK}, {"1/3", api.OK}, {"-22/7", api.OK},
		{"", api.ErrForm}, {"/", api.ErrForm}, {"/2", api.ErrForm}, {"1/", api.ErrForm}, {"-/2", api.ErrForm}, {"1/-", api.ErrForm},
		{"4/2", api.ErrForm}, {"2/4", api.ErrForm}, {"3/1", api.ErrForm}, {"0/1", api.ErrForm}, {"0/3", api.ErrForm}, {"1/0", api.ErrForm}, {"0/0", api.ErrForm},
		{"1/-2", api.ErrForm}, {"-1/-2", api.ErrForm}, {"+1/2", api.ErrForm}, {"1/+2", api.ErrForm}, {"1/02", api.ErrForm}, {"01/2", api.ErrForm}, {"-0/2", api.ErrForm},
		{"1/2/3", api.ErrForm}, {"1//2", api.ErrForm}, {"1 /2", api.ErrForm}, {"1/ 2", api.ErrForm}, {"1/2 ", api.ErrForm}, {"0.5", api.ErrForm}, {"-0", api.ErrForm},
		{below, api.OK}, {"1/" + below, api.OK}, {"-" + below + "/2", api.OK},
		{above, api.ErrSize}, {"-" + above, api.ErrSize}, {"1/" + above, api.ErrSize}, {above + "/3", api.ErrSize}, {"3/" + above, api.ErrSize}, {below + "/" + above, api.ErrSize},
		{above + "/2", api.ErrForm}, {"2/" + above, api.ErrForm}, {above + "/" + above, api.ErrForm},
		{nines(70000), api.ErrSize}, {nines(69998) + "/2", api.ErrSize}, {nines(69998) + "/3", api.ErrForm}, {nines(35000) + "/" + nines(34999), api.ErrForm},
		{"1" + strings.Repeat("0", 34998) + "1/" + nines(34999), api.ErrSize},
		{nines(69999) + "x", api.ErrForm}, {nines(70001), api.ErrLong}, {strings.Repeat("/", 70001), api.ErrLong}, {nines(69998) + "/02", api.ErrLong},
	}
	for _, x := range tests {
		r, e := frac.Parse(x.text)
		if e != x.want {
			t.Errorf("Parse of %.20q (%d bytes): %d, not %d", x.text, len(x.text), e, x.want)
		}
		if e != api.OK && !reflect.DeepEqual(r, frac.Rat{}) {
			t.Errorf("Parse of %.20q: %.20s next to an error", x.text, r)
		}
		if e == api.OK && r.String() != x.text {
			t.Errorf("Parse of %.20q: String differs", x.text)
		}
	}
}

// P1.2: the operations, against another implementation.
func TestRatOperations(t *testing.T) {
	r := rand.New(rand.NewSource(7))
	for range 3000 {
		x, y := randomRat(r), randomRat(r)
		a, b := parse(t, text(x)), parse(t, text(y))
		if got, e := a.Add(b); e != api.OK || got.String() != text(new(big.Rat).Add(x, y)) {
			t.Fatalf("%s + %s: %s, %d", x, y, got, e)
		}
		if got, e := a.Sub(b); e != api.OK || got.String() != text(new(big.Rat).Sub(x, y)) {
			t.Fatalf("%s - %s: %s, %d", x, y, got, e)
		}
		if got, e := a.Mul(b); e != api.OK || got.String() != text(new(big.Rat).Mul(x, y)) {
			t.Fatalf("%s * %s: %s, %d", x, y, got, e)
		}
		if got := a.Neg(); got.String() != text(new(big.Rat).Neg(x)) {
			t.Fatalf("- %s: %s", x, got)
		}
		if a.Cmp(b) != x.Cmp(y) || a.Cmp(a) != 0 || a.Sign() != x.Sign() {
			t.Fatalf("Cmp of %s and %s: %d", x, y, a.Cmp(b))
		}
		if a.Num().String() != x.Num().String() || a.Den().String() != x.Denom().String() {
			t.Fatalf("parts of %s: %s, %s", x, a.Num(), a.Den())
		}
		if want := new(big.Int).Div(x.Num(), x.Denom()); a.Floor().String() != want.String() {
			t.Fatalf("Floor of %s: %s", x, a.Floor())
		}
		if y.Sign() == 0 {
			continue
		}
		if got, e := a.Quo(b); e != api.OK || got.String() != text(new(big.Rat).Quo(x, y)) {
			t.Fatalf("%s / %s: %s, %d", x, y, got, e)
		}
	}
	third, sixth := parse(t, "1/3"), parse(t, "1/6")
	if half, e := third.Add(sixth); half.String() != "1/2" || e != api.OK {
		t.Errorf("1/3 + 1/6: %s, %d", half, e)
	}
	if r, e := third.Quo(frac.Rat{}); e != api.ErrZero || !reflect.DeepEqual(r, frac.Rat{}) {
		t.Errorf("1/3 / 0: %s, %d", r, e)
	}
	if r, e := (frac.Rat{}).Quo(frac.Rat{}); e != api.ErrZero || r.Sign() != 0 {
		t.Errorf("0 / 0: %s, %d", r, e)
	}
}

// P1.2: a result is too large just if its numerator or denominator is, in lowest terms.
func TestRatLimit(t *testing.T) {
	top := frac.From(greatest(t))
	one := frac.Of(1)
	tiny, e := one.Quo(top)
	if e != api.OK || tiny.Den().Cmp(greatest(t)) != 0 {
		t.Fatalf("1 / top: %d", e)
	}
	big1, big2 := frac.From(power(t, 70000)), frac.From(parseInt(t, new(big.Int).Exp(big.NewInt(3), big.NewInt(50000), nil).String()))
	x, _ := big1.Quo(big2)
	tooLarge := []func() (frac.Rat, api.Errno){
		func() (frac.Rat, api.Errno) { return top.Add(one) },
		func() (frac.Rat, api.Errno) { return top.Neg().Sub(one) },
		func() (frac.Rat, api.Errno) { return top.Mul(frac.Of(2)) },
		func() (frac.Rat, api.Errno) { return tiny.Add(one) }, // the numerator would be 2^100000
		func() (frac.Rat, api.Errno) { return tiny.Mul(tiny) },
		func() (frac.Rat, api.Errno) { return tiny.Quo(frac.Of(2)) },
		func() (frac.Rat, api.Errno) { return top.Quo(tiny) },
		func() (frac.Rat, api.Errno) { return x.Mul(x) },
	}
	for i, f := range tooLarge {
		if r, e := f(); e != api.ErrSize || !reflect.DeepEqual(r, frac.Rat{}) {
			t.Errorf("too large %d: %.20s, %d", i, r, e)
		}
	}
	inverse, _ := big2.Quo(big1)
	if r, e := x.Mul(inverse); e != api.OK || r.String() != "1" {
		t.Errorf("x / x by Mul: %d", e)
	}
	if r, e := x.Quo(x); e != api.OK || r.String() != "1" {
		t.Errorf("x / x: %d", e)
	}
	if r, e := x.Sub(x); e != api.OK || !reflect.DeepEqual(r, frac.Rat{}) {
		t.Errorf("x - x: %d", e)
	}
	rest, e := one.Sub(tiny)
	if e != api.OK {
		t.Fatalf("1 - tiny: %d", e)
	}
	if r, e := rest.Add(tiny); e != api.OK || r.String() != "1" {
		t.Errorf("1 - tiny + tiny: %d", e)
	}
	if rest.Cmp(one) != -1 || one.Cmp(rest) != 1 || rest.Cmp(rest) != 0 || top.Cmp(rest) != 1 || top.Neg().Cmp(rest) != -1 {
		t.Error("Cmp of large fractions")
	}
	if top.Floor().Cmp(greatest(t)) != 0 || tiny.Neg().Floor().Cmp(frac.Whole(-1)) != 0 || rest.Floor().Sign() != 0 {
		t.Error("Floor of large fractions")
	}
}
