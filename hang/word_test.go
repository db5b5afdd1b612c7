package hang_test

import (
	"slices"
	"strings"
	"testing"

	"rabbet/api"
	"rabbet/hang"
)

// long is a word of the greatest length.
var long = repeat("ab", api.MaxWord/2)

// P4.1: Check, byte by byte.
func TestCheckBytes(t *testing.T) {
	for b := range 256 {
		want := api.ErrWord
		if strings.Contains(alphabet+strings.ToUpper(alphabet), string([]byte{byte(b)})) {
			want = api.OK
		}
		one := string([]byte{byte(b)})
		for _, w := range []string{one, one + "a", "a" + one, "ab" + one + "AB", long[:api.MaxWord-1] + one} {
			if e := hang.Check(w); e != want {
				t.Errorf("Check(%q): %d, not %d", brief(w), e, want)
			}
		}
	}
}

// P4.1: Check, the limit and the order of the errors.
func TestCheck(t *testing.T) {
	if api.MaxWord != 30000 {
		t.Fatalf("MaxWord: %d", api.MaxWord)
	}
	for _, x := range []struct {
		w    string
		want api.Errno
	}{
		{"", api.OK}, {"a", api.OK}, {"Z", api.OK}, {"aA", api.OK}, {alphabet + strings.ToUpper(alphabet), api.OK},
		{long[1:], api.OK}, {long, api.OK}, {long + "a", api.ErrLong}, {long + long, api.ErrLong}, {repeat("aA", 15001), api.ErrLong},
		{long + "a1", api.ErrWord}, {long + "1", api.ErrWord}, {"1" + long, api.ErrWord}, {long + long + " ", api.ErrWord}, {long[:15000] + "-" + long, api.ErrWord},
		{"é", api.ErrWord}, {"aé", api.ErrWord}, {"ſ", api.ErrWord}, {"\u212a", api.ErrWord}, {"ａ", api.ErrWord}, {"\u0161", api.ErrWord}, {"a\xff", api.ErrWord}, {"\xc3", api.ErrWord}, {"a b", api.ErrWord}, {"a\n", api.ErrWord}, {"\x00", api.ErrWord}, {"a-1", api.ErrWord}, {repeat("é", 15000), api.ErrWord}, {repeat("é", 30000), api.ErrWord},
	} {
		if e := hang.Check(x.w); e != x.want {
			t.Errorf("Check(%q): %d, not %d", brief(x.w), e, x.want)
		}
	}
}

// calls returns the calls that take a word, each reporting its error and whether all other results are zero values.
func calls() map[string]func(w string) (bool, api.Errno) {
	return map[string]func(w string) (bool, api.Errno){
		"Reduce":          func(w string) (bool, api.Errno) { x, e := hang.Reduce(w); return x == "", e },
		"Inverse":         func(w string) (bool, api.Errno) { x, e := hang.Inverse(w); return x == "", e },
		"Falls":           func(w string) (bool, api.Errno) { x, e := hang.Falls(w, alphabet); return !x, e },
		"Falls, no set":   func(w string) (bool, api.Errno) { x, e := hang.Falls(w, "ba"); return !x, e },
		"Sets":            func(w string) (bool, api.Errno) { x, e := hang.Sets(w); return len(x) == 0, e },
		"Sets, 11 nails":  func(w string) (bool, api.Errno) { x, e := hang.Sets("abcdefghijk" + w); return len(x) == 0, e },
		"Sum":             func(w string) (bool, api.Errno) { x, e := hang.Sum(w, "a"); return x == 0, e },
		"Sum, no nail":    func(w string) (bool, api.Errno) { x, e := hang.Sum(w, "ab"); return x == 0, e },
		"Root":            func(w string) (bool, api.Errno) { x, n, e := hang.Root(w); return x == "" && n == 0, e },
		"Commute, first":  func(w string) (bool, api.Errno) { return commuteFails(w, "ab") },
		"Commute, second": func(w string) (bool, api.Errno) { return commuteFails("ab", w) },
		"Commute, empty":  func(w string) (bool, api.Errno) { return commuteFails("", w) },
		"Commute, both":   func(w string) (bool, api.Errno) { return commuteFails(w, w) },
		"Turned, first":   func(w string) (bool, api.Errno) { x, ok, e := hang.Turned(w, "ab"); return x == "" && !ok, e },
		"Turned, second":  func(w string) (bool, api.Errno) { x, ok, e := hang.Turned("ab", w); return x == "" && !ok, e },
		"Turned, both":    func(w string) (bool, api.Errno) { x, ok, e := hang.Turned(w, w); return x == "" && !ok, e },
	}
}

func commuteFails(u, v string) (bool, api.Errno) {
	r, m, n, ok, e := hang.Commute(u, v)
	return r == "" && m == 0 && n == 0 && !ok, e
}

// P4.1: what Check returns comes first in all calls that take words.
func TestWordErrors(t *testing.T) {
	for name, call := range calls() {
		for _, w := range []string{"1", "a b", "é", "\xff", "ab\x00", long + "-", "-" + long} {
			if zero, e := call(w); e != api.ErrWord || !zero {
				t.Errorf("%s of %q: %d, %t", name, brief(w), e, zero)
			}
		}
		for _, w := range []string{long + "a", long + long, repeat("aA", 15001), repeat(alphabet, 2000)} {
			if zero, e := call(w); e != api.ErrLong || !zero {
				t.Errorf("%s of %q: %d, %t", name, brief(w), e, zero)
			}
		}
	}
}

// P4.1: of two words, the first one's error comes first.
func TestWordErrorsOfTwo(t *testing.T) {
	for _, x := range []struct {
		u, v string
		want api.Errno
	}{
		{"1", long + "a", api.ErrWord}, {long + "a", "1", api.ErrLong}, {"1", "a", api.ErrWord}, {"a", "1", api.ErrWord}, {long + "a", "a", api.ErrLong}, {"a", long + "a", api.ErrLong}, {"", "", api.OK}, {long, long, api.OK},
	} {
		if _, _, _, _, e := hang.Commute(x.u, x.v); e != x.want {
			t.Errorf("Commute(%q, %q): %d, not %d", brief(x.u), brief(x.v), e, x.want)
		}
		if _, _, e := hang.Turned(x.u, x.v); e != x.want {
			t.Errorf("Turned(%q, %q): %d, not %d", brief(x.u), brief(x.v), e, x.want)
		}
	}
}

// P4.1: Reduce, by the definition.
func TestReduce(t *testing.T) {
	for _, w := range slices.Concat(words(2, 7), words(3, 5)) {
		if x, e := hang.Reduce(w); x != form(w) || x != longForm(w) || e != api.OK {
			t.Fatalf("Reduce(%q): %q, %d, not %q", w, x, e, form(w))
		}
	}
	for _, x := range [][2]string{
		{"", ""}, {"aA", ""}, {"Aa", ""}, {"aa", "aa"}, {"AA", "AA"}, {"aB", "aB"}, {"abBA", ""}, {"abAB", "abAB"}, {"abBAc", "c"}, {"zZYy", ""}, {"zyxXYZaz", "az"}, {"aAAa", ""}, {"abBBbA", ""}, {"aBbBbC", "aC"}, {"aZzb", "ab"},
		{long, long}, {repeat("a", 15000) + repeat("A", 15000), ""}, {repeat("a", 14999) + repeat("A", 15001), "AA"}, {repeat("aA", 15000), ""}, {"b" + repeat("aA", 14999) + "b", "bb"}, {repeat("a", 10000) + repeat("bB", 10000), repeat("a", 10000)},
	} {
		if y, e := hang.Reduce(x[0]); y != x[1] || e != api.OK {
			t.Errorf("Reduce(%q): %q, %d", brief(x[0]), brief(y), e)
		}
	}
}

// P4.1 and W2: the reduced form is the same, in whatever order pairs were put in; it is reduced, and its own reduced form.
func TestReduceMany(t *testing.T) {
	for seed := range int64(40) {
		r := source(seed)
		w := longForm(letters(r, alphabet[:2+seed%25], 300))
		same := loose(r, w, alphabet, 400)
		if x := reduces(t, same); x != w {
			t.Fatalf("Reduce(%q): %q, not %q", brief(same), brief(x), brief(w))
		}
		if x := reduces(t, w); x != w {
			t.Fatalf("Reduce(%q): %q", brief(w), brief(x))
		}
		w = letters(r, alphabet[:1+seed%3], api.MaxWord)
		if x := reduces(t, w); x != longForm(w) {
			t.Fatalf("Reduce of a long word: %q, not %q", brief(x), brief(longForm(w)))
		}
	}
}

// P4.1: Inverse, by the definition.
func TestInverse(t *testing.T) {
	all := append(words(2, 5), words(3, 4)...)
	for _, w := range append(all, "aA", "abBA", alphabet, strings.ToUpper(alphabet), "aZbY", "zZ") {
		if x, e := hang.Inverse(w); x != back(w) || e != api.OK {
			t.Fatalf("Inverse(%q): %q, %d, not %q", w, x, e, back(w))
		}
		if x := reduces(t, w+back(w)); x != "" {
			t.Fatalf("%q and its inverse: %q", w, x)
		}
	}
	for _, x := range [][2]string{{"", ""}, {"a", "A"}, {"abAB", "baBA"}, {"aA", "aA"}, {"aab", "BAA"}, {"aABb", "BbaA"}, {long, repeat("BA", 15000)}, {repeat("aA", 15000), repeat("aA", 15000)}} {
		if y, e := hang.Inverse(x[0]); y != x[1] || e != api.OK {
			t.Errorf("Inverse(%q): %q, %d", brief(x[0]), brief(y), e)
		}
	}
}

// P4.1: Falls, by the definition.
func TestFalls(t *testing.T) {
	check := func(w, pulled string) {
		t.Helper()
		if ok, e := hang.Falls(w, pulled); ok != falls(w, pulled) || e != api.OK {
			t.Fatalf("Falls(%q, %q): %t, %d", brief(w), pulled, ok, e)
		}
	}
	for _, w := range append(words(2, 5), words(3, 4)...) {
		for _, s := range subsets("abc") {
			check(w, s)
		}
	}
	for seed := range int64(100) {
		r := source(seed)
		nails := alphabet[seed%20 : seed%20+3+seed%4]
		w := tangle(r, nails, 4)
		for _, s := range subsets(nails) {
			check(w, s)
		}
	}
	for seed := range int64(10) {
		r := source(seed)
		w := letters(r, "az", api.MaxWord)
		for _, s := range []string{"", "a", "z", "az", "b", alphabet} {
			check(w, s)
		}
	}
}

// P4.1: Falls, cases that are worked out by hand, and strings that are no sets of nails.
func TestFallsCases(t *testing.T) {
	for _, x := range []struct {
		w, pulled string
		want      bool
	}{
		{"abAB", "a", true}, {"abAB", "b", true}, {"abAB", "ab", true}, {"abAB", "", false}, {"abAB", "c", false}, {"abAB", alphabet, true},
		{"ab", "a", false}, {"ab", "b", false}, {"ab", "ab", true}, {"", "", true}, {"", "z", true}, {"aA", "", true}, {"aA", "b", true}, {"a", "a", true}, {"A", "a", true}, {"Z", "z", true}, {"z", "y", false}, {"abA", "b", true}, {"abA", "a", false},
		{"xyzXZY", "x", true}, {"xyzXZY", "y", false}, {"xyzXZY", "z", false}, {"xyzXZY", "yz", true}, {"xyzXZY", "xz", true}, {alphabet, alphabet, true}, {alphabet, alphabet[1:], false}, {alphabet, alphabet[:25], false}, {strings.ToUpper(alphabet), alphabet, true},
		{repeat("a", 15000) + repeat("A", 15000), "", true}, {repeat("a", 15000) + "b" + repeat("A", 14999), "b", false}, {repeat("a", 14999) + "b" + repeat("A", 14999), "b", true},
	} {
		if ok, e := hang.Falls(x.w, x.pulled); ok != x.want || e != api.OK {
			t.Errorf("Falls(%q, %q): %t, %d", brief(x.w), x.pulled, ok, e)
		}
	}
	for _, pulled := range notSets() {
		for _, w := range []string{"", "ab", "aA", long} {
			if ok, e := hang.Falls(w, pulled); ok || e != api.ErrArg {
				t.Errorf("Falls(%q, %q): %t, %d", brief(w), brief(pulled), ok, e)
			}
		}
	}
}

// notSets returns strings that are no sets of nails.
func notSets() []string {
	return []string{"ba", "aa", "A", "aB", "Ab", "zz", "abcb", "abcc", "acb", "1", " ", "a ", " a", "a,b", "`", "{", "@", "[", "a\x00", "\x00", "é", "aé", "\xff", "a\xff", "ａ", alphabet + "a", alphabet + "z", alphabet + "{", repeat("a", 40000)}
}

// P4.1: Sum, by the definition.
func TestSum(t *testing.T) {
	for _, w := range append(words(2, 5), words(3, 4)...) {
		for _, nail := range []string{"a", "b", "c", "z"} {
			want := strings.Count(w, nail) - strings.Count(w, strings.ToUpper(nail))
			if n, e := hang.Sum(w, nail); n != want || e != api.OK {
				t.Fatalf("Sum(%q, %q): %d, %d, not %d", w, nail, n, e, want)
			}
		}
	}
	for _, x := range []struct {
		w, nail string
		want    int
	}{
		{"", "a", 0}, {"aaAb", "a", 1}, {"aaAb", "b", 1}, {"aaAb", "c", 0}, {"AAA", "a", -3}, {"abAB", "a", 0}, {"zZZ", "z", -1}, {"zz", "z", 2}, {"aAaA", "a", 0},
		{repeat("a", 30000), "a", 30000}, {repeat("Z", 30000), "z", -30000}, {long, "b", 15000}, {long, "z", 0},
	} {
		if n, e := hang.Sum(x.w, x.nail); n != x.want || e != api.OK {
			t.Errorf("Sum(%q, %q): %d, %d, not %d", brief(x.w), x.nail, n, e, x.want)
		}
	}
	for _, nail := range append(notSets(), "", "ab", "az", alphabet, "Z") {
		for _, w := range []string{"", "aaAb", "aaabbb"} {
			if n, e := hang.Sum(w, nail); n != 0 || e != api.ErrArg {
				t.Errorf("Sum(%q, %q): %d, %d", w, brief(nail), n, e)
			}
		}
	}
}

// P1: no call panics, whatever its arguments; R7: it answers the same again.
func TestAnyArguments(t *testing.T) {
	const bytes = "aAbBcCzZ@[`{ 1-/\x00\x7f\x80\xc3\xa9\xff"
	for seed := range int64(3000) {
		r := source(seed)
		some := func() string {
			used := len(bytes)
			if r.Intn(3) > 0 { // often a word
				used = 8
			}
			out := make([]byte, r.Intn(12))
			for i := range out {
				out[i] = bytes[r.Intn(used)]
			}
			return string(out)
		}
		u, v := some(), some()
		sets := []string{nailsOf(u), v, nailsOf(v)}
		if first, second := answers(u, v, sets), answers(u, v, sets); first != second {
			t.Fatalf("%q, %q: first %+v, then %+v", u, v, first, second)
		}
	}
	answers("", "", nil)
	answers("", "", []string{})
	answers(long, long, []string{long})
}

// told is what the calls answered.
type told struct {
	check, reduce, inverse, falls, sets, sum, root, commute, turned, least, dual, hang api.Errno
	reduced, back, fallingSets, rootWord, commonRoot, x, leastSets, dualSets, word     string
	isDown, together, turnable                                                         bool
	total, powerOf, m, n                                                               int
}

func answers(u, v string, sets []string) told {
	var a told
	var falling, least, dual []string
	a.check = hang.Check(u)
	a.reduced, a.reduce = hang.Reduce(u)
	a.back, a.inverse = hang.Inverse(u)
	a.isDown, a.falls = hang.Falls(u, v)
	falling, a.sets = hang.Sets(u)
	a.total, a.sum = hang.Sum(u, v)
	a.rootWord, a.powerOf, a.root = hang.Root(u)
	a.commonRoot, a.m, a.n, a.together, a.commute = hang.Commute(u, v)
	a.x, a.turnable, a.turned = hang.Turned(u, v)
	least, a.least = hang.Least(sets)
	dual, a.dual = hang.Dual(sets)
	a.word, a.hang = hang.Hang(sets)
	a.fallingSets, a.leastSets, a.dualSets = strings.Join(falling, ","), strings.Join(least, ","), strings.Join(dual, ",")
	return a
}
