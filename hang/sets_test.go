package hang_test

import (
	"slices"
	"strings"
	"testing"

	"rabbet/api"
	"rabbet/hang"
)

// P4.2: Sets, by the definition.
func TestSets(t *testing.T) {
	check := func(w string) {
		t.Helper()
		if sets, e := hang.Sets(w); !slices.Equal(sets, fallingSets(w)) || e != api.OK {
			t.Fatalf("Sets(%q): %q, %d, not %q", brief(w), sets, e, fallingSets(w))
		}
	}
	for _, w := range append(words(2, 6), words(3, 4)...) {
		check(w)
	}
	for seed := range int64(150) {
		r := source(seed)
		nails := alphabet[seed%19 : seed%19+3+seed%4]
		w := tangle(r, nails, 3+int(seed%3))
		check(w)
		check(loose(r, w, nails, 20))
	}
	for seed := range int64(4) {
		check(tangle(source(seed), "aceginprtz", 6))
	}
}

// P4.2: Sets, cases that are worked out by hand.
func TestSetsCases(t *testing.T) {
	for _, x := range []struct {
		w    string
		want []string
	}{
		{"abAB", []string{"a", "b"}}, {"ab", []string{"ab"}}, {"", []string{""}}, {"aA", []string{""}}, {"abBA", []string{""}}, {"a", []string{"a"}}, {"Z", []string{"z"}}, {"aaa", []string{"a"}}, {"abA", []string{"b"}}, {"acCb", []string{"ab"}},
		{"xyzXZY", []string{"x", "yz"}}, {"yzxZYX", []string{"x", "yz"}}, {"ba", []string{"ab"}}, {"cabCBAzZ", []string{"ab", "c"}}, {"cabACB", []string{"ac", "b"}},
		{commutator("ab", "cd"), []string{"ab", "cd"}}, {commutator("az", "by"), []string{"az", "by"}}, {commutator("b", "acd"), []string{"acd", "b"}}, {commutator("bc", "ac"), []string{"ab", "ac", "bc"}}, // any two of three
		{commutator("a", commutator("b", "c")), []string{"a", "b", "c"}}, {commutator("c", "b") + "a", []string{"ab", "ac"}},
		{"abcdefghij", []string{"abcdefghij"}}, {"qrstuvwxyz", []string{"qrstuvwxyz"}}, {"JIHGFEDCBA", []string{"abcdefghij"}}, {"abcdefghijJIHGFEDCBA", []string{""}}, {"abcdefghijABCDEFGHIJ", leastSuch("abcdefghij", func(s string) bool { return len(s) == 9 })},
		{repeat("abcdefghij", 3000), []string{"abcdefghij"}}, {repeat("a", 15000) + repeat("A", 15000), []string{""}}, {repeat("abAB", 7500), []string{"a", "b"}},
	} {
		if sets, e := hang.Sets(x.w); !slices.Equal(sets, x.want) || e != api.OK {
			t.Errorf("Sets(%q): %q, %d, not %q", brief(x.w), sets, e, x.want)
		}
	}
}

// P4.2: ten nails are the limit, also those of letters that the reduced form does not have.
func TestSetsLimit(t *testing.T) {
	for _, w := range []string{"abcdefghijk", "ABCDEFGHIJK", "abcdefghijkK", "abcdefghijKk", "kKabcdefghij", alphabet, alphabet + back(alphabet), "pqrstuvwxyzZYXWVUTSRQP", "abcdefghiz" + "jJ", repeat("abcdefghijk", 2727)} {
		if sets, e := hang.Sets(w); len(sets) != 0 || e != api.ErrLong {
			t.Errorf("Sets(%q): %q, %d", brief(w), sets, e)
		}
	}
	for _, w := range []string{"abcdefghij", "abcdefghijJA", "aAbBcCdDeEfFgGhHiIjJ", "zyxwvutsrq"} {
		if sets, e := hang.Sets(w); len(sets) == 0 || e != api.OK {
			t.Errorf("Sets(%q): %q, %d", brief(w), sets, e)
		}
	}
}

// P4.2: Least, by the definition.
func TestLeast(t *testing.T) {
	check := func(list []string) {
		t.Helper()
		if sets, e := hang.Least(list); !slices.Equal(sets, leastOf(list)) || e != api.OK {
			t.Fatalf("Least(%q): %q, %d, not %q", list, sets, e, leastOf(list))
		}
	}
	for _, list := range shortLists("abc", 3) {
		check(list)
	}
	for _, list := range append(reducedLists("bdfz"), manySets()...) {
		check(list)
	}
	for seed := range int64(60) {
		low := int(seed % 5)
		check(someSets(source(seed), alphabet[seed%16:], int(seed)%100+1, low, low+4))
	}
	check(append(strings.Split(alphabet, ""), alphabet, ""))
	check(append(strings.Split(alphabet, ""), alphabet, alphabet[:2]))
	check([]string{alphabet, alphabet[1:], alphabet[2:], alphabet})
}

// P4.2: Least, cases that are worked out by hand.
func TestLeastCases(t *testing.T) {
	hundred := slices.Repeat([]string{"a"}, 100)
	for _, x := range [][2][]string{
		{nil, nil}, {{""}, {""}}, {{"", ""}, {""}}, {{"a", ""}, {""}}, {{"a"}, {"a"}}, {{"a", "a"}, {"a"}}, {{"b", "a"}, {"a", "b"}}, {{"ab", "a"}, {"a"}}, {{"a", "ab"}, {"a"}}, {{"abc", "ab", "a"}, {"a"}}, {{"b", "abc"}, {"b"}}, {{"c", "ab", "bc"}, {"ab", "c"}},
		{{"b", "ac", "abz", "acd"}, {"ac", "b"}}, {{"z", "ac", "abz"}, {"ac", "z"}}, {{"ad", "abc", "ab", "ab"}, {"ab", "ad"}}, {{"bc", "abd", "ac", "b"}, {"ac", "b"}}, {{alphabet, "az"}, {"az"}}, {{alphabet}, {alphabet}}, {{"y", "z"}, {"y", "z"}},
		{hundred, {"a"}}, {append(slices.Clone(hundred[1:]), "b"), {"a", "b"}},
	} {
		if sets, e := hang.Least(x[0]); !slices.Equal(sets, x[1]) || e != api.OK {
			t.Errorf("Least(%q): %q, %d, not %q", x[0], sets, e, x[1])
		}
	}
}

// P4.2: Dual, by the definition.
func TestDual(t *testing.T) {
	check := func(list []string) {
		t.Helper()
		if sets, e := hang.Dual(list); !slices.Equal(sets, dualOf(list)) || e != api.OK {
			t.Fatalf("Dual(%q): %q, %d, not %q", list, sets, e, dualOf(list))
		}
	}
	for _, list := range append(shortLists("abc", 3), reducedLists("bdfz")...) {
		if len(list) > 0 && !slices.Contains(list, "") {
			check(list)
		}
	}
	for _, list := range manySets() {
		check(list)
	}
}

// P4.2: Dual, cases that are worked out by hand.
func TestDualCases(t *testing.T) {
	ten := alphabet[:10]
	for _, x := range [][2][]string{
		{{"ab", "ac"}, {"a", "bc"}}, {{"a"}, {"a"}}, {{"z"}, {"z"}}, {{"ab"}, {"a", "b"}}, {{"a", "b"}, {"ab"}}, {{"b", "a", "b"}, {"ab"}}, {{"ab", "a"}, {"a"}}, {{"a", "ab", "ac"}, {"a"}}, {{"ab", "bc", "ac"}, {"ab", "ac", "bc"}}, {{"ab", "cd"}, {"ac", "ad", "bc", "bd"}}, {{"b", "acd"}, {"ab", "bc", "bd"}},
		{{ten}, ofSize(ten, 1)}, {ofSize(ten, 1), {ten}}, {ofSize(ten, 2), ofSize(ten, 9)}, {{"qrstuvwxyz", "z"}, {"z"}}, {slices.Repeat([]string{"ab"}, 100), {"a", "b"}},
	} {
		if sets, e := hang.Dual(x[0]); !slices.Equal(sets, x[1]) || e != api.OK {
			t.Errorf("Dual(%q): %q, %d, not %q", x[0], sets, e, x[1])
		}
	}
}

// P4.2: the errors of lists of sets, in their order.
func TestListErrors(t *testing.T) {
	hundred := slices.Repeat([]string{"a"}, 100)
	with := func(sets ...string) []string { return append(slices.Clone(hundred), sets...) }
	eleven := alphabet[:11]
	for _, x := range []struct {
		sets              []string
		least, dual, hang api.Errno
	}{
		{hundred, api.OK, api.OK, api.OK}, {with("a"), api.ErrLong, api.ErrLong, api.ErrLong}, {with("a", "b", "c"), api.ErrLong, api.ErrLong, api.ErrLong},
		{with("ba"), api.ErrLong, api.ErrLong, api.ErrLong}, {append([]string{"ba"}, hundred...), api.ErrLong, api.ErrLong, api.ErrLong}, {with(""), api.ErrLong, api.ErrLong, api.ErrLong}, {with(eleven), api.ErrLong, api.ErrLong, api.ErrLong},
		{append([]string{"ba"}, hundred[1:]...), api.ErrArg, api.ErrArg, api.ErrArg}, {with("1")[1:], api.ErrArg, api.ErrArg, api.ErrArg},
		{nil, api.OK, api.ErrNone, api.ErrNone}, {[]string{}, api.OK, api.ErrNone, api.ErrNone}, {hundred[:0], api.OK, api.ErrNone, api.ErrNone},
		{[]string{""}, api.OK, api.ErrArg, api.OK}, {[]string{"", "a"}, api.OK, api.ErrArg, api.OK}, {[]string{"ab", "c", ""}, api.OK, api.ErrArg, api.OK}, {with("")[1:], api.OK, api.ErrArg, api.OK},
		{[]string{"", "ba"}, api.ErrArg, api.ErrArg, api.ErrArg}, {[]string{"ba", ""}, api.ErrArg, api.ErrArg, api.ErrArg},
		{[]string{eleven[:10]}, api.OK, api.OK, api.OK}, {[]string{eleven}, api.OK, api.ErrLong, api.ErrLong}, {[]string{eleven[:6], eleven[5:]}, api.OK, api.ErrLong, api.ErrLong}, {ofSize(eleven, 1), api.OK, api.ErrLong, api.ErrLong}, {ofSize(alphabet[16:], 1), api.OK, api.OK, api.OK}, {[]string{alphabet}, api.OK, api.ErrLong, api.ErrLong},
		{[]string{"a", eleven}, api.OK, api.ErrLong, api.ErrLong}, {[]string{eleven, "k"}, api.OK, api.ErrLong, api.ErrLong}, // though the reduced list has one nail
		{[]string{"", eleven}, api.OK, api.ErrArg, api.ErrLong}, {[]string{eleven, ""}, api.OK, api.ErrArg, api.ErrLong}, {[]string{eleven, "ba"}, api.ErrArg, api.ErrArg, api.ErrArg},
	} {
		checkErrors(t, x.sets, x.least, x.dual, x.hang)
	}
	for _, set := range notSets() {
		checkErrors(t, []string{set}, api.ErrArg, api.ErrArg, api.ErrArg)
		checkErrors(t, []string{"a", "b", set}, api.ErrArg, api.ErrArg, api.ErrArg)
	}
}

func checkErrors(t *testing.T, sets []string, least, dual, word api.Errno) {
	t.Helper()
	if x, e := hang.Least(sets); e != least || e != api.OK && len(x) > 0 {
		t.Errorf("Least(%.99q): %.99q, %d, not %d", sets, x, e, least)
	}
	if x, e := hang.Dual(sets); e != dual || e != api.OK && len(x) > 0 {
		t.Errorf("Dual(%.99q): %.99q, %d, not %d", sets, x, e, dual)
	}
	if x, e := hang.Hang(sets); e != word || e != api.OK && x != "" {
		t.Errorf("Hang(%.99q): %q, %d, not %d", sets, brief(x), e, word)
	}
}

// hangs checks P4.3, by the definition, and P4.6.
func hangs(t *testing.T, sets []string) {
	t.Helper()
	w, e := hang.Hang(sets)
	if e != api.OK || hang.Check(w) != api.OK {
		t.Fatalf("Hang(%q): %q, %d", sets, brief(w), e)
	}
	nails := nailsOf(sets...)
	if !holds(nails, nailsOf(w)) {
		t.Fatalf("Hang(%q): %q has other nails", sets, brief(w))
	}
	for _, s := range subsets(nails) {
		want := slices.ContainsFunc(sets, func(part string) bool { return holds(s, part) })
		if falls(w, s) != want {
			t.Fatalf("Hang(%q): %q falls with %q: %t", sets, brief(w), s, !want)
		}
	}
	least, e := hang.Least(sets)
	must(t, e)
	if falling, e := hang.Sets(w); !slices.Equal(falling, least) || e != api.OK {
		t.Fatalf("Sets of Hang(%q): %q, %d, not %q", sets, falling, e, least)
	}
}

// P4.3, P4.6, W3 and W5: words that hang by all lists of sets of few nails, and by many lists of many.
func TestHang(t *testing.T) {
	for _, list := range slices.Concat(shortLists("abc", 3), reducedLists("bdfz"), reducedLists("vwxyz")) {
		if len(list) > 0 {
			hangs(t, list)
		}
	}
	for seed := range int64(60) {
		hangs(t, someSets(source(seed), "acegikm", 1+int(seed)%30, 1, 5))
	}
}

// P4.3, P4.6 and W5: the limits, and lists whose words are long.
func TestHangMany(t *testing.T) {
	for _, list := range manySets() {
		hangs(t, list)
	}
	hangs(t, slices.Repeat([]string{"ab", "bc", "ac", "az"}, 25))
}

// P4.3: cases that are worked out by hand.
func TestHangCases(t *testing.T) {
	for _, list := range [][]string{{""}, {"", ""}} {
		if w, e := hang.Hang(list); w != "" || e != api.OK {
			t.Errorf("Hang(%q): %q, %d: there are no nails", list, w, e)
		}
	}
	for _, list := range [][]string{{"", "a"}, {"ab", "", "c"}} {
		if w, e := hang.Hang(list); longForm(w) != "" || e != api.OK {
			t.Errorf("Hang(%q): %q, %d: it does not fall by itself", list, w, e)
		}
	}
	w, e := hang.Hang([]string{"ab", "bc", "ac"}) // any two of three
	must(t, e)
	for _, s := range subsets("abc") {
		if ok, e := hang.Falls(w, s); ok != (len(s) >= 2) || e != api.OK {
			t.Errorf("Falls(%q, %q): %t, %d", w, s, ok, e)
		}
	}
}

// P4.6: the dual of the dual is the reduced list.
func TestDualOfDual(t *testing.T) {
	check := func(list []string) {
		t.Helper()
		dual, e := hang.Dual(list)
		must(t, e)
		if len(dual) > 100 {
			return
		}
		least, e := hang.Least(list)
		must(t, e)
		if back, e := hang.Dual(dual); !slices.Equal(back, least) || e != api.OK {
			t.Fatalf("the dual of the dual of %q: %q, %d, not %q", list, back, e, least)
		}
		if again, e := hang.Least(dual); !slices.Equal(again, dual) || e != api.OK {
			t.Fatalf("Dual(%q): %q is not reduced", list, dual)
		}
	}
	for _, list := range slices.Concat(shortLists("abc", 3), reducedLists("vwxyz"), manySets()) {
		if len(list) > 0 && !slices.Contains(list, "") {
			check(list)
		}
	}
}

// R4: lists are neither changed nor kept, results are new memory, and what is beyond a list's length is not touched.
func TestListMemory(t *testing.T) {
	for name, call := range map[string]func([]string) ([]string, api.Errno){"Least": hang.Least, "Dual": hang.Dual, "Hang": hangOne} {
		given := []string{"c", "bc", "ab", "ab", "1", "ba", ""}
		list, before := given[:4], slices.Clone(given)
		first, e := call(list)
		must(t, e)
		if !slices.Equal(given, before) {
			t.Errorf("%s: %q became %q", name, before, given)
		}
		kept := slices.Clone(first)
		second, e := call(list)
		must(t, e)
		clear(second[:cap(second)])
		if !slices.Equal(first, kept) || !slices.Equal(given, before) {
			t.Errorf("%s: the results share memory", name)
		}
		clear(first[:cap(first)])
		third, e := call(list)
		if !slices.Equal(third, kept) || e != api.OK || !slices.Equal(given, before) {
			t.Errorf("%s: %q, %d, not %q", name, third, e, kept)
		}
	}
	one := []string{"ab", "c"} // reduced, and its own result
	out, e := hang.Least(one)
	must(t, e)
	out[0] = "z"
	if one[0] != "ab" {
		t.Errorf("Least returns its argument")
	}
	first, _ := hang.Sets("abAB")
	first[0] = "z"
	if second, e := hang.Sets("abAB"); !slices.Equal(second, []string{"a", "b"}) || e != api.OK {
		t.Errorf("Sets: %q, %d", second, e)
	}
}

func hangOne(sets []string) ([]string, api.Errno) {
	w, e := hang.Hang(sets)
	return []string{w}, e
}
