package bars

import (
	"slices"
	"sort"

	"rabbet/api"
)

const (
	maxHalves = 10_000_000   // that may be asked for
	farthest  = 4 * maxShade // the halves within which all bars may be paired, or stay alone, that may be so at all
)

// Crowd is bars of one list that have too few partners in the other one.
type Crowd struct {
	Second bool
	Bars   []int
}

// Pair pairs two lists of bars within h.
func Pair(a, b []Bar, h int) ([]int, bool, api.Errno) {
	if e := checkLists(a, b, h); e != api.OK {
		return nil, false, e
	}
	pairs, _, ok := search(a, b, h)
	return pairs, ok, api.OK
}

func checkLists(a, b []Bar, h int) api.Errno {
	if e := CheckBars(a); e != api.OK {
		return e
	}
	if e := CheckBars(b); e != api.OK {
		return e
	}
	if h < 0 || h > maxHalves {
		return api.ErrArg
	}
	return api.OK
}

// mayPair reports whether two bars may be paired within h. Bars that are open both have the Death 0.
func mayPair(a, b Bar, h int) bool {
	return a.Open == b.Open && 2*max(a.Birth-b.Birth, b.Birth-a.Birth, a.Death-b.Death, b.Death-a.Death) <= h
}

// mayStay reports whether a bar may stay alone within h.
func mayStay(b Bar, h int) bool {
	return !b.Open && b.Death-b.Birth <= h
}

// search returns pairs within h, or a crowd. Bars of b that may not stay alone are settled after those of a, which then keep partners.
func search(a, b []Bar, h int) ([]int, Crowd, bool) {
	owners := slices.Repeat([]int{-1}, len(b))
	if list := settle(a, b, h, owners); len(list) > 0 {
		return nil, Crowd{Bars: list}, false
	}
	pairs := slices.Repeat([]int{-1}, len(a))
	for j, owner := range owners {
		if owner >= 0 {
			pairs[owner] = j
		}
	}
	if list := settle(b, a, h, pairs); len(list) > 0 {
		return nil, Crowd{Second: true, Bars: list}, false
	}
	return pairs, Crowd{}, true
}

// settle finds partners for all bars of a list that may not stay alone, and leaves none of the others alone that has one: owners are the partners that these have, or -1. If it cannot, it returns bars that have too few.
func settle(list, others []Bar, h int, owners []int) []int {
	// place finds a partner for a bar, if need be by moving bars that were not tried before, or reports that there is none.
	var place func(i int, tried ...bool) bool
	place = func(i int, tried ...bool) bool {
		tried[i] = true
		for j, other := range others {
			owner := owners[j]
			if !mayPair(list[i], other, h) || owner >= 0 && tried[owner] {
				continue
			}
			if owner < 0 || mayStay(list[owner], h) || place(owner, tried...) {
				owners[j] = i
				return true
			}
		}
		return false
	}
	for i, bar := range list {
		if mayStay(bar, h) || slices.Contains(owners, i) {
			continue
		}
		tried := make([]bool, len(list))
		if !place(i, tried...) {
			return indicesOf(tried)
		}
	}
	return nil
}

// indicesOf returns where a list is true.
func indicesOf(list []bool) []int {
	var out []int
	for i, x := range list {
		if x {
			out = append(out, i)
		}
	}
	return out
}

// IsPairing reports whether pairs are a pairing of two lists of bars within h.
func IsPairing(a, b []Bar, h int, pairs []int) bool {
	if checkLists(a, b, h) != api.OK || len(pairs) != len(a) {
		return false
	}
	paired := make([]bool, len(b))
	for i, j := range pairs {
		if j == -1 && mayStay(a[i], h) {
			continue
		}
		if j < 0 || j >= len(b) || paired[j] || !mayPair(a[i], b[j], h) {
			return false
		}
		paired[j] = true
	}
	for j, bar := range b {
		if !paired[j] && !mayStay(bar, h) {
			return false
		}
	}
	return true
}

// Alone returns a crowd for h.
func Alone(a, b []Bar, h int) (Crowd, bool, api.Errno) {
	if e := checkLists(a, b, h); e != api.OK {
		return Crowd{}, false, e
	}
	_, crowd, ok := search(a, b, h)
	return crowd, !ok, api.OK
}

// IsCrowd reports whether bars are a crowd for h.
func IsCrowd(a, b []Bar, h int, c Crowd) bool {
	if checkLists(a, b, h) != api.OK {
		return false
	}
	list, others := a, b
	if c.Second {
		list, others = b, a
	}
	for n, i := range c.Bars {
		if i < 0 || i >= len(list) || n > 0 && i <= c.Bars[n-1] || mayStay(list[i], h) {
			return false
		}
	}
	partners := 0
	for _, other := range others {
		if slices.ContainsFunc(c.Bars, func(i int) bool { return mayPair(list[i], other, h) }) {
			partners++
		}
	}
	return partners < len(c.Bars)
}

// Distance returns the least h within which there is a pairing.
func Distance(a, b []Bar) (int, bool, api.Errno) {
	if e := checkLists(a, b, 0); e != api.OK {
		return 0, false, e
	}
	h := sort.Search(farthest+1, func(h int) bool {
		_, _, ok := search(a, b, h)
		return ok
	})
	if h > farthest {
		return 0, false, api.OK
	}
	return h, true, api.OK
}
