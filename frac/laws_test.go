package frac_test

import (
	"math/rand"
	"testing"

	"rabbet/api"
	"rabbet/frac"
)

// ordered is what integers and fractions have in common.
type ordered[T any] interface {
	Add(T) (T, api.Errno)
	Sub(T) (T, api.Errno)
	Mul(T) (T, api.Errno)
	Neg() T
	Cmp(T) int
	Sign() int
	String() string
}

// must returns the result of an operation that has one.
func must[T any](x T, e api.Errno) T {
	if e != api.OK {
		panic(e)
	}
	return x
}

// ringLaws checks the laws of an ordered ring.
func ringLaws[T ordered[T]](t *testing.T, zero, one, a, b, c T) {
	t.Helper()
	same := func(law string, x, y T) {
		if x.Cmp(y) != 0 || x.String() != y.String() {
			t.Fatalf("%s: %s and %s for %s, %s, %s", law, x, y, a, b, c)
		}
	}
	sum, product := must(a.Add(b)), must(a.Mul(b))
	same("a + b = b + a", sum, must(b.Add(a)))
	same("a b = b a", product, must(b.Mul(a)))
	same("(a + b) + c = a + (b + c)", must(sum.Add(c)), must(a.Add(must(b.Add(c)))))
	same("(a b) c = a (b c)", must(product.Mul(c)), must(a.Mul(must(b.Mul(c)))))
	same("(a + b) c = a c + b c", must(sum.Mul(c)), must(must(a.Mul(c)).Add(must(b.Mul(c)))))
	same("a + 0 = a", must(a.Add(zero)), a)
	same("a 1 = a", must(a.Mul(one)), a)
	same("a - a = 0", must(a.Add(a.Neg())), zero)
	same("a - b = a + -b", must(a.Sub(b)), must(a.Add(b.Neg())))
	same("--a = a", a.Neg().Neg(), a)
	if a.Cmp(b) != -b.Cmp(a) || a.Cmp(b) != must(a.Sub(b)).Sign() || a.Cmp(b) != must(a.Add(c)).Cmp(must(b.Add(c))) {
		t.Fatalf("order of %s, %s, %s", a, b, c)
	}
	if c.Sign() > 0 && must(a.Mul(c)).Cmp(must(b.Mul(c))) != a.Cmp(b) || product.Sign() != a.Sign()*b.Sign() {
		t.Fatalf("order of products of %s, %s, %s", a, b, c)
	}
	if a.Cmp(b) <= 0 && b.Cmp(c) <= 0 && a.Cmp(c) > 0 {
		t.Fatalf("order of %s, %s, %s is none", a, b, c)
	}
}

// P1.4 (integers).
func TestRingLaws(t *testing.T) {
	r := rand.New(rand.NewSource(13))
	random := func() frac.Int { return parseInt(t, randomInt(r).String()) }
	for range 1000 {
		a, b, c := random(), random(), random()
		ringLaws(t, frac.Int{}, frac.Whole(1), a, b, c)
		if b.Sign() == 0 {
			continue
		}
		q, rest, e := a.Div(b)
		if e != api.OK || must(must(q.Mul(b)).Add(rest)).Cmp(a) != 0 || rest.Sign() < 0 || rest.Cmp(b) >= 0 && rest.Cmp(b.Neg()) >= 0 {
			t.Fatalf("%s / %s: %s, %s", a, b, q, rest)
		}
		g := frac.Gcd(a, b)
		_, x, _ := a.Div(g)
		_, y, _ := b.Div(g)
		if x.Sign() != 0 || y.Sign() != 0 || frac.Gcd(must(a.Mul(c)), must(b.Mul(c))).Cmp(frac.Gcd(must(g.Mul(c)), frac.Int{})) != 0 {
			t.Fatalf("Gcd of %s and %s: %s", a, b, g)
		}
	}
}

// P1.4 (fractions).
func TestFieldLaws(t *testing.T) {
	r := rand.New(rand.NewSource(14))
	random := func() frac.Rat { return parse(t, text(randomRat(r))) }
	one := frac.Of(1)
	for range 1000 {
		a, b, c := random(), random(), random()
		ringLaws(t, frac.Rat{}, one, a, b, c)
		if b.Sign() == 0 {
			continue
		}
		q := must(a.Quo(b))
		if must(q.Mul(b)).Cmp(a) != 0 || must(must(one.Quo(b)).Mul(a)).Cmp(q) != 0 || must(b.Quo(b)).Cmp(one) != 0 {
			t.Fatalf("%s / %s: %s", a, b, q)
		}
		if q.Den().Sign() <= 0 || frac.Gcd(q.Num(), q.Den()).Cmp(frac.Whole(1)) != 0 {
			t.Fatalf("%s is not in lowest terms", q)
		}
		floor := frac.From(q.Floor())
		if floor.Cmp(q) > 0 || must(floor.Add(one)).Cmp(q) <= 0 {
			t.Fatalf("Floor of %s: %s", q, floor)
		}
	}
}
