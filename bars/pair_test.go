package bars_test

import (
	"math"
	"slices"
	"testing"

	"rabbet/api"
	"rabbet/bars"
)

// P10.2: pairings, crowds and distances that are worked out by hand. The h before the distance has a crowd.
func TestPairsByHand(t *testing.T) {
	for _, x := range []struct {
		a, b string
		want int // -1 if the distance is infinite
	}{
		{"", "", 0},
		{"0:0..4", "", 4},
		{"", "0:0..4", 4},
		{"0:0..1", "", 1},
		{"0:0..4", "0:0..4", 0},
		{"0:0..4", "3:0..4", 0}, // Dim plays no part
		{"0:0..4", "0:0..5", 2},
		{"0:0..4", "0:1..4", 2},
		{"0:0..4", "0:1..5", 2},
		{"0:0..4", "0:1..3", 2},
		{"0:0..4", "0:1..6", 4},
		{"0:0..4", "0:2..4", 4},
		{"0:0..4", "0:3..7", 4}, // 4: both stay alone
		{"0:0..4", "0:3..8", 5}, // 5: alone, as they are 6 halves apart
		{"0:0..9", "0:3..12", 6},
		{"0:0..9", "0:3..4", 9},
		{"0:0..9 0:3..4", "0:0..9", 1},
		{"0:0..9 0:0..9", "0:0..9", 9},
		{"0:0..9 0:0..9", "0:0..9 0:0..9", 0},
		{"0:0..9 0:1..9", "0:1..9 0:2..9", 2},
		{"0:0..9 0:2..9", "0:2..9 0:1..9", 2},
		{"0:0..9 0:2..9", "0:1..9 0:5..9", 6},
		{"0:0..9 0:5..9", "0:1..9", 4},
		{"0:0..9 0:1..9 0:2..9", "0:1..9 0:1..9 0:1..9", 2},
		{"0:3..", "0:3..", 0},
		{"0:3..", "0:5..", 4},
		{"0:5..", "0:3..", 4},
		{"0:-3..", "0:5..", 16},
		{"0:0.. 0:10..", "0:9.. 0:2..", 4},
		{"0:0.. 0:10..", "0:-10.. 0:0..", 20},
		{"0:-1000000..", "0:1000000..", 4 * million},
		{"0:-1000000..1000000", "", 2 * million},
		{"0:-1000000..1000000", "0:-1000000..-999999", 2 * million},
		{"0:-1000000..1000000", "0:-1..0", 2 * million},
		{"0:-1000000..1000000", "0:-999999..999999", 2},
		{"0:3..", "", -1},
		{"", "0:3..", -1},
		{"0:3..", "0:3..4", -1},
		{"0:3..4", "0:3..", -1},
		{"0:3.. 0:3..", "0:3..", -1},
		{"0:3..", "0:3.. 0:3.. 0:0..1", -1},
		{"0:0..1", "0:0..", -1},
		{"0:-5..0", "0:-5..", -1}, // an open bar's Death of 0 is no end
	} {
		a, b := parse(x.a), parse(x.b)
		h, ok, e := bars.Distance(a, b)
		if e != api.OK || ok != (x.want >= 0) || h != max(x.want, 0) {
			t.Errorf("Distance of %s and %s: %d, %t, %d; not %d", x.a, x.b, h, ok, e, x.want)
		}
		for _, h := range []int{0, 1, x.want - 1, x.want, x.want + 1, 4 * million, 10 * million} {
			if h >= 0 {
				either(t, a, b, h, x.want >= 0 && h >= x.want)
			}
		}
	}
}

// either fails if there is not a pairing or else a crowd within h, as wanted.
func either(t *testing.T, a, b []bars.Bar, h int, want bool) {
	t.Helper()
	pairs, ok, e := bars.Pair(a, b, h)
	crowd, not, f := bars.Alone(a, b, h)
	if e != api.OK || f != api.OK || ok != want || not == want {
		t.Fatalf("%s and %s within %d: %v, %t, %d; %v, %t, %d", written(a), written(b), h, pairs, ok, e, crowd, not, f)
	}
	if want && (!isPairing(a, b, h, pairs) || !bars.IsPairing(a, b, h, pairs)) {
		t.Fatalf("%s and %s within %d: %v is no pairing", written(a), written(b), h, pairs)
	}
	if !want && (!isCrowd(a, b, h, crowd) || !bars.IsCrowd(a, b, h, crowd)) {
		t.Fatalf("%s and %s within %d: %v is no crowd", written(a), written(b), h, crowd)
	}
	if want {
		zero(t, "Alone", crowd.Second, crowd.Bars)
	} else {
		zero(t, "Pair", pairs)
	}
}

// P10.2, P10.4: small lists: Pair against all lists that may be pairings, Alone against all sets of bars, IsPairing and IsCrowd for each of them.
func TestPairsByAll(t *testing.T) {
	r := newRand(21)
	seen := map[bool]int{}
	for range 1500 {
		places, length, open := 1+r.Intn(5), 1+r.Intn(4), []int{0, 20, 50}[r.Intn(3)]
		a, b := some(r, r.Intn(5), places, length, open), some(r, r.Intn(5), places, length, open)
		h := r.Intn(8)
		want := pairings(len(a), len(b), func(pairs []int) bool { return isPairing(a, b, h, pairs) })
		either(t, a, b, h, want)
		seen[want]++
		if crowd := crowds(len(a), len(b), func(c bars.Crowd) bool { return isCrowd(a, b, h, c) }); crowd == want {
			t.Fatalf("%s and %s within %d: a pairing %t, a crowd %t", written(a), written(b), h, want, crowd)
		}
		pairings(len(a), len(b), func(pairs []int) bool {
			if bars.IsPairing(a, b, h, pairs) != isPairing(a, b, h, pairs) {
				t.Fatalf("IsPairing of %s and %s within %d, %v", written(a), written(b), h, pairs)
			}
			return false
		})
		crowds(len(a), len(b), func(c bars.Crowd) bool {
			if bars.IsCrowd(a, b, h, c) != isCrowd(a, b, h, c) {
				t.Fatalf("IsCrowd of %s and %s within %d, %v", written(a), written(b), h, c)
			}
			return false
		})
	}
	if seen[true] < 300 || seen[false] < 300 {
		t.Errorf("%d pairings, %d crowds", seen[true], seen[false])
	}
}

// P10.2: lists of numbers of any kind.
func TestPairingsOfAnyNumbers(t *testing.T) {
	r := newRand(22)
	seen := map[bool]int{}
	for range 60000 {
		a, b := some(r, r.Intn(4), 2, 3, 30), some(r, r.Intn(4), 2, 3, 30)
		h := r.Intn(5)
		list := make([]int, r.Intn(4))
		for i := range list {
			list[i] = r.Intn(len(b)+3) - 1
			if r.Intn(20) == 0 {
				list[i] = []int{math.MinInt, -2, 300, math.MaxInt}[r.Intn(4)]
			}
		}
		want := isPairing(a, b, h, list)
		if bars.IsPairing(a, b, h, list) != want {
			t.Fatalf("IsPairing of %s and %s within %d, %v", written(a), written(b), h, list)
		}
		seen[want]++
		c := bars.Crowd{Second: r.Intn(2) == 0, Bars: list}
		if bars.IsCrowd(a, b, h, c) != isCrowd(a, b, h, c) {
			t.Fatalf("IsCrowd of %s and %s within %d, %v", written(a), written(b), h, c)
		}
	}
	if seen[true] < 1000 {
		t.Errorf("only %d pairings", seen[true])
	}
}

// P10.2: what is no pairing, by one mistake each.
func TestNoPairing(t *testing.T) {
	a, b := parse("0:0..9 0:5.. 0:2..4"), parse("0:6.. 0:1..9 0:7..8")
	if !bars.IsPairing(a, b, 2, []int{1, 0, -1}) {
		t.Fatal("no pairing")
	}
	for _, pairs := range [][]int{
		nil, {1, 0}, {1, 0, -1, -1}, {1, 0, -2}, {1, 0, 3}, {1, 0, 1}, {1, 0, 0}, {1, 0, 2}, {-1, 0, -1}, {1, -1, -1}, {0, 1, -1}, {1, 1, -1}, {1, 0, math.MaxInt}, {1, math.MinInt, -1},
	} {
		if bars.IsPairing(a, b, 2, pairs) {
			t.Errorf("IsPairing of %v", pairs)
		}
	}
	if bars.IsPairing(a, b, 1, []int{1, 0, -1}) {
		t.Error("IsPairing within 1")
	}
	if bars.IsPairing(a, append(b, parse("0:3..6")...), 2, []int{1, 0, -1}) {
		t.Error("IsPairing with a bar of the second list that may not stay alone")
	}
}

// P10.2: what is no crowd, by one mistake each.
func TestNoCrowd(t *testing.T) {
	a, b := parse("0:0..9 0:1..9 0:2..4 0:5.."), parse("0:1..9 0:8..")
	for _, x := range []struct {
		c    bars.Crowd
		want bool
	}{
		{bars.Crowd{Bars: []int{0, 1}}, true},
		{bars.Crowd{Bars: []int{0, 1, 3}}, true},
		{bars.Crowd{Bars: []int{3}}, true},
		{bars.Crowd{Second: true, Bars: []int{1}}, true},
		{bars.Crowd{}, false},
		{bars.Crowd{Second: true}, false},
		{bars.Crowd{Bars: []int{0}}, false},
		{bars.Crowd{Bars: []int{1, 0}}, false},
		{bars.Crowd{Bars: []int{0, 0}}, false},
		{bars.Crowd{Bars: []int{0, 0, 1}}, false},
		{bars.Crowd{Bars: []int{0, 1, 2}}, false},
		{bars.Crowd{Bars: []int{2}}, false},
		{bars.Crowd{Bars: []int{0, 1, 4}}, false},
		{bars.Crowd{Bars: []int{-1, 0, 1}}, false},
		{bars.Crowd{Bars: []int{4}}, false},
		{bars.Crowd{Bars: []int{math.MinInt}}, false},
		{bars.Crowd{Bars: []int{3, math.MaxInt}}, false},
		{bars.Crowd{Second: true, Bars: []int{0, 1}}, false},
		{bars.Crowd{Second: true, Bars: []int{2}}, false},
		{bars.Crowd{Second: true, Bars: []int{3}}, false},
	} {
		if got := bars.IsCrowd(a, b, 2, x.c); got != x.want {
			t.Errorf("IsCrowd of %v: %t", x.c, got)
		}
	}
}

// P10.2: the distance is the least h that has a pairing.
func TestDistanceByAll(t *testing.T) {
	r := newRand(23)
	infinite := 0
	for range 600 {
		places, length := 1+r.Intn(8), 1+r.Intn(8)
		a := some(r, r.Intn(5), places, length, 20)
		b := some(r, r.Intn(5), places, length, 20)
		if r.Intn(2) == 0 {
			b = near(r, a, r.Intn(3))
		}
		want := least(60, func(h int) bool {
			return pairings(len(a), len(b), func(pairs []int) bool { return isPairing(a, b, h, pairs) })
		})
		h, ok, e := bars.Distance(a, b)
		if e != api.OK || ok != (want >= 0) || h != max(want, 0) {
			t.Fatalf("Distance of %s and %s: %d, %t, %d; not %d", written(a), written(b), h, ok, e, want)
		}
		if want < 0 {
			infinite++
		}
	}
	if infinite < 50 || infinite > 400 {
		t.Errorf("%d distances are infinite", infinite)
	}
}

// P10.2, P10.4: long lists: a pairing within the distance, a crowd just below it.
func TestManyBars(t *testing.T) {
	r := newRand(24)
	finite := 0
	for n := range 60 {
		count := 300 - 5*r.Intn(40)
		open := []int{0, 10, 100}[n%3]
		places, length := 1+r.Intn(1000), 1+r.Intn(300)
		a := some(r, count, places, length, open)
		b := near(r, a, 1+r.Intn(30))
		switch n % 4 {
		case 0:
			b = some(r, count, places, length, open)
		case 1:
			b = b[:count-3]
		}
		h, ok, e := bars.Distance(a, b)
		if e != api.OK {
			t.Fatalf("Distance: %d", e)
		}
		other, same, _ := bars.Distance(b, a)
		if other != h || same != ok {
			t.Fatalf("Distance of %s and %s: %d, %t, the other way %d, %t", written(a), written(b), h, ok, other, same)
		}
		if !ok {
			either(t, a, b, 10*million, false)
			continue
		}
		finite++
		either(t, a, b, h, true)
		either(t, a, b, h+1, true)
		if h > 0 {
			either(t, a, b, h-1, false)
			either(t, b, a, h-1, false)
		}
	}
	if finite < 30 {
		t.Errorf("only %d distances are finite", finite)
	}
}

// P10.2, P10.4: bars in rows, in which each may be paired with the next ones, so that many have to be moved for one.
func TestRowsOfBars(t *testing.T) {
	r := newRand(25)
	for range 60 {
		n := 1 + r.Intn(300)
		var a, b []bars.Bar
		for i := range n {
			a = append(a, bars.Bar{Birth: i, Death: 1000 + i})
			b = append(b, bars.Bar{Birth: i + 1, Death: 1001 + i})
		}
		r.Shuffle(n, func(i, j int) { a[i], a[j] = a[j], a[i] })
		r.Shuffle(n, func(i, j int) { b[i], b[j] = b[j], b[i] })
		either(t, a, b, 2, true)
		either(t, b, a, 2, true)
		either(t, a, b, 1, false)
		if h := must2(bars.Distance(a, b)); h != 2 {
			t.Fatalf("Distance of rows of %d: %d", n, h)
		}
		a[r.Intn(n)].Birth -= 500
		either(t, a, b, 2, false)
		either(t, b, a, 2, false)
	}
}

// must2 returns the first of two results, where the second one is true.
func must2(h int, ok bool, e api.Errno) int {
	if !ok || e != api.OK {
		return -1
	}
	return h
}

// P10.2, P10.4: bars that may stay alone are left for those that may not: in one list, in the other one, and in both.
func TestBarsThatAreLeft(t *testing.T) {
	for _, x := range []struct {
		a, b string
		h    int
		want bool
	}{
		{"0:0..4 0:0..5", "0:0..4", 4, true},
		{"0:0..5 0:0..4", "0:0..4", 4, true},
		{"0:0..4", "0:0..4 0:0..5", 4, true},
		{"0:0..4", "0:0..5 0:0..4", 4, true},
		{"0:0..4 0:0..5", "0:0..4 0:0..5", 4, true},
		{"0:0..5 0:0..5", "0:0..4", 4, false},
		{"0:0..4", "0:0..5 0:0..5", 4, false},
		{"0:0..4 0:0..5 0:0..3", "0:1..4 0:1..5", 4, true},
		{"0:0..5 0:4..9", "0:2..6 0:6..11", 4, true},
		{"0:0..9 0:5..9", "0:2..9 0:7..14", 4, false},
	} {
		a, b := parse(x.a), parse(x.b)
		either(t, a, b, x.h, x.want)
		either(t, b, a, x.h, x.want)
	}
	r := newRand(26)
	for range 3000 {
		a, b := some(r, r.Intn(6), 3, 8, 0), some(r, r.Intn(6), 3, 8, 0)
		either(t, a, b, 4, pairedAll(a, b, 4))
	}
}

// pairedAll reports whether there is a pairing, by the parts of one: one that leaves none of a alone that may not be, and one that leaves none of b (Mendelsohn, Dulmage).
func pairedAll(a, b []bars.Bar, h int) bool {
	return covers(a, b, h) && covers(b, a, h)
}

// covers reports whether all bars of a that may not stay alone have partners of their own: it takes one after the other, and moves those before.
func covers(a, b []bars.Bar, h int) bool {
	owner := slices.Repeat([]int{-1}, len(b))
	for i := range a {
		if alone(a[i], h) {
			continue
		}
		from := slices.Repeat([]int{-1}, len(b)) // of each bar of b, the one of a from which it was reached
		queue, end := []int{i}, -1
		for n := 0; n < len(queue) && end < 0; n++ {
			for j := range b {
				if from[j] < 0 && paired(a[queue[n]], b[j], h) {
					from[j] = queue[n]
					if owner[j] < 0 {
						end = j
						break
					}
					queue = append(queue, owner[j])
				}
			}
		}
		if end < 0 {
			return false
		}
		for j := end; ; {
			who := from[j]
			next := slices.Index(owner, who)
			owner[j] = who
			if who == i {
				break
			}
			j = next
		}
	}
	return true
}
