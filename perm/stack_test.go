package perm_test

import (
	"strings"
	"testing"

	"rabbet/api"
	"rabbet/perm"
)

// sorts is the definition.
func sorts(p []int, run string) bool {
	var stack, off []int
	put := 0
	for i := range len(run) {
		switch run[i] {
		case 'i':
			if put == len(p) {
				return false
			}
			stack = append(stack, p[put])
			put++
		case 'o':
			if len(stack) == 0 {
				return false
			}
			off = append(off, stack[len(stack)-1])
			stack = stack[:len(stack)-1]
		default:
			return false
		}
	}
	return same(off, up(len(p)))
}

// runs returns all strings of i and o of a length.
func runs(length int) []string {
	out := []string{""}
	for range length {
		var next []string
		for _, s := range out {
			next = append(next, s+"i", s+"o")
		}
		out = next
	}
	return out
}

// P2.5: Sorts, by the definition, and Sort: a run, or none exists.
func TestSort(t *testing.T) {
	for n := 1; n <= 5; n++ {
		var all []string
		for length := range 2*n + 2 {
			all = append(all, runs(length)...)
		}
		for _, p := range lists(n) {
			exists := false
			for _, run := range all {
				ok := sorts(p, run)
				exists = exists || ok
				if perm.Sorts(p, run) != ok {
					t.Fatalf("Sorts(%v, %s) is not %t", p, run, ok)
				}
			}
			run, ok, e := perm.Sort(p)
			if ok != exists || e != api.OK || ok != sorts(p, run) || !ok && run != "" {
				t.Fatalf("Sort(%v): %s, %t, %d", p, run, ok, e)
			}
		}
	}
}

func TestSortCases(t *testing.T) {
	for _, x := range []struct {
		p   []int
		run string
		ok  bool
	}{
		{[]int{0}, "io", true}, {[]int{0}, "", false}, {[]int{0}, "i", false}, {[]int{0}, "o", false}, {[]int{0}, "oi", false}, {[]int{0}, "iio", false}, {[]int{0}, "ioo", false}, {[]int{0}, "ioi", false}, {[]int{0}, "ioio", false},
		{[]int{0}, "IO", false}, {[]int{0}, "io ", false}, {[]int{0}, " io", false}, {[]int{0}, "i\x00o", false}, {[]int{0}, "i\xffo", false}, {[]int{0}, "ïo", false},
		{[]int{2, 0, 1}, "iioioo", true}, {[]int{2, 0, 1}, "ioioio", false}, {[]int{2, 0, 1}, "iiiooo", false}, {[]int{1, 0}, "iioo", true}, {[]int{1, 0}, "ioio", false},
		{[]int{1, 2, 0}, "ioiioo", false}, {up(60), strings.Repeat("io", 60), true}, {down(60), strings.Repeat("i", 60) + strings.Repeat("o", 60), true}, {up(60), strings.Repeat("i", 60) + strings.Repeat("o", 60), false},
		{up(60), strings.Repeat("io", 100000), false}, {up(60), strings.Repeat("i", 100000), false}, {up(60), strings.Repeat("io", 59), false},
	} {
		if perm.Sorts(x.p, x.run) != x.ok {
			t.Errorf("Sorts(%v, %.130q) is not %t", x.p, x.run, x.ok)
		}
	}
	for _, p := range [][]int{{2, 0, 1}, up(60), down(60), append(down(30), up(60)[30:]...)} {
		if run, ok, e := perm.Sort(p); !ok || e != api.OK || !sorts(p, run) {
			t.Errorf("Sort(%v): %s, %t, %d", p, run, ok, e)
		}
	}
	for _, p := range [][]int{{1, 2, 0}, append(up(57), 58, 59, 57), append(up(60)[1:], 0)} {
		if run, ok, e := perm.Sort(p); ok || run != "" || e != api.OK {
			t.Errorf("Sort(%v): %s, %t, %d", p, run, ok, e)
		}
	}
}

// P2.8 and W1: a permutation has either a run or an occurrence.
func TestRunOrOccurrence(t *testing.T) {
	check := func(p []int) {
		run, ok, e := perm.Sort(p)
		must(t, e)
		at, found, e := perm.Find(p, []int{1, 2, 0})
		must(t, e)
		if ok == found || ok != perm.Sorts(p, run) || found != (len(at) == 3) {
			t.Fatalf("%v: %t (%s), %t (%v)", p, ok, run, found, at)
		}
	}
	for _, p := range upTo(7) {
		check(p)
	}
	for seed := range int64(50) {
		check(mixed(seed, api.MaxPerm))
	}
}
