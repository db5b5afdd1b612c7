package hang_test

import (
	"slices"
	"testing"

	"rabbet/api"
	"rabbet/hang"
)

// root is a word and the power of it that another one is.
type root struct {
	word  string
	power int
}

// rootsOf returns the roots of all reduced words of k nails with up to n letters, by the definition: of all powers that are such a word, the greatest. (A word has no more letters than a power of it.)
func rootsOf(t *testing.T, k, n int) map[string]root {
	t.Helper()
	out := map[string]root{}
	for _, r := range forms(k, n) {
		for i := 1; i <= n && r != ""; i++ {
			w := form(power(r, i))
			if len(w) > n {
				break
			}
			if found, ok := out[w]; ok && found.power == i {
				t.Fatalf("%q is %q and %q to the power %d", w, found.word, r, i)
			}
			if i > out[w].power {
				out[w] = root{r, i}
			}
		}
	}
	return out
}

// P4.4: Root, by the definition.
func TestRoot(t *testing.T) {
	roots := rootsOf(t, 2, 7)
	for _, w := range words(2, 7) {
		want := roots[form(w)]
		e := api.OK
		if form(w) == "" {
			e = api.ErrNone
		}
		if r, n, f := hang.Root(w); r != want.word || n != want.power || f != e {
			t.Fatalf("Root(%q): %q, %d, %d, not %v, %d", w, r, n, f, want, e)
		}
	}
}

// P4.4: Root, cases that are worked out by hand.
func TestRootCases(t *testing.T) {
	for _, x := range []struct {
		w, r string
		n    int
	}{
		{"abab", "ab", 2}, {"baaB", "baB", 2}, {"a", "a", 1}, {"A", "A", 1}, {"AA", "A", 2}, {"zzz", "z", 3}, {"aaaaaa", "a", 6}, {"ab", "ab", 1}, {"aba", "aba", 1}, {"abAB", "abAB", 1}, {"abaB", "abaB", 1}, {"aab", "aab", 1}, {"abaaba", "aba", 2}, {"aabaab", "aab", 2}, {"aabaaab", "aabaaab", 1}, {"ababa", "ababa", 1}, {"abababab", "ab", 4}, {"baB", "baB", 1}, {"cbaaaBC", "cbaBC", 3}, {"aabA", "aabA", 1}, {"aababA", "aabA", 2}, {"abbA", "abA", 2},
		{"aAb", "b", 1}, {"abBa", "a", 2}, {"bcCabaBbAab", "babab", 1}, {"abbBab", "ab", 2}, {"aAabaAab", "ab", 2},
		{repeat("a", 30000), "a", 30000}, {long, "ab", 15000}, {repeat("a", 29999) + "b", repeat("a", 29999) + "b", 1}, {repeat("aab", 10000), "aab", 10000}, {repeat("aab", 9999) + "aba", repeat("aab", 9999) + "aba", 1}, {repeat("c", 14998) + "abab" + repeat("C", 14998), repeat("c", 14998) + "ab" + repeat("C", 14998), 2}, {repeat("a", 15000) + "b" + repeat("A", 14999), repeat("a", 15000) + "b" + repeat("A", 14999), 1}, {"a" + repeat("b", 29998) + "A", "abA", 29998}, {repeat(repeat("a", 14999)+"b", 2), repeat("a", 14999) + "b", 2}, {repeat("aA", 14999) + "bb", "b", 2},
	} {
		if r, n, e := hang.Root(x.w); r != x.r || n != x.n || e != api.OK {
			t.Errorf("Root(%q): %q, %d, %d, not %q, %d", brief(x.w), brief(r), n, e, brief(x.r), x.n)
		}
	}
	for _, w := range []string{"", "aA", "abBA", "zZZz", repeat("aA", 15000), repeat("a", 15000) + repeat("A", 15000)} {
		if r, n, e := hang.Root(w); r != "" || n != 0 || e != api.ErrNone {
			t.Errorf("Root(%q): %q, %d, %d", brief(w), r, n, e)
		}
	}
}

// simple reports whether a word is neither reduced further as a loop nor a power.
func simple(w string) bool {
	for p := 1; p < len(w); p++ {
		if len(w)%p == 0 && repeat(w[:p], len(w)/p) == w {
			return false
		}
	}
	return w != "" && longForm(w+w) == w+w
}

// P4.4: roots of long powers that are turned and not reduced.
func TestRootMany(t *testing.T) {
	for seed := range int64(200) {
		r := source(seed)
		nails := alphabet[:2+seed%3]
		loop := letters(r, nails, 1+r.Intn(60))
		handle := longForm(letters(r, nails, r.Intn(40)))
		turned := handle + loop + back(handle)
		if !simple(loop) || longForm(turned) != turned {
			continue
		}
		n := 1 + r.Intn(100)
		w := loose(r, handle+power(loop, n)+back(handle), nails, 50)
		if root, m, e := hang.Root(w); root != turned || m != n || e != api.OK {
			t.Fatalf("Root of %q to the power %d: %q, %d, %d", turned, n, root, m, e)
		}
	}
}

// P4.4 and P4.7: Commute, by the definition; two words commute just if they are powers of one word.
func TestCommute(t *testing.T) {
	roots := rootsOf(t, 2, 4)
	all := words(2, 4)
	together := 0
	for _, u := range all {
		for _, v := range all {
			want := form(u+v) == form(v+u)
			r, m, n, ok, e := hang.Commute(u, v)
			if ok != want || e != api.OK || ok != powersOfOne(roots, form(u), form(v)) {
				t.Fatalf("Commute(%q, %q): %t, %d", u, v, ok, e)
			}
			if !ok && (r != "" || m != 0 || n != 0) {
				t.Fatalf("Commute(%q, %q): %q, %d, %d", u, v, r, m, n)
			}
			if ok {
				together++
				checkPowers(t, u, v, r, m, n)
				if m != roots[form(u)].power || r != "" && roots[r].power != 1 {
					t.Fatalf("Commute(%q, %q): %q, %d, %d: no root", u, v, r, m, n)
				}
			}
		}
	}
	if together < 10000 {
		t.Errorf("%d pairs commute", together)
	}
}

// powersOfOne reports whether two reduced words are powers of one word.
func powersOfOne(roots map[string]root, u, v string) bool {
	r, s := roots[u].word, roots[v].word
	return u == "" || v == "" || r == s || r == back(s)
}

// checkPowers checks what Commute says of two words that commute.
func checkPowers(t *testing.T, u, v, r string, m, n int) {
	t.Helper()
	u, v = longForm(u), longForm(v)
	none := u == "" && v == "" && r == "" && m == 0 && n == 0
	some := (u != "" || v != "") && (m > 0 || m == 0 && n > 0)
	if !none && !some || longForm(power(r, m)) != u || longForm(power(r, n)) != v || longForm(r) != r {
		t.Fatalf("Commute(%q, %q): %q, %d, %d", brief(u), brief(v), brief(r), m, n)
	}
}

// P4.4: Commute, cases that are worked out by hand.
func TestCommuteCases(t *testing.T) {
	for _, x := range []struct {
		u, v, r string
		m, n    int
		ok      bool
	}{
		{"", "", "", 0, 0, true}, {"aA", "", "", 0, 0, true}, {"aA", "bBbB", "", 0, 0, true}, {"a", "", "a", 1, 0, true}, {"AA", "bB", "A", 2, 0, true}, {"", "a", "a", 0, 1, true}, {"", "AAA", "A", 0, 3, true}, {"cC", "abab", "ab", 0, 2, true}, {"abab", "", "ab", 2, 0, true},
		{"a", "a", "a", 1, 1, true}, {"a", "A", "a", 1, -1, true}, {"A", "a", "A", 1, -1, true}, {"AAA", "aa", "A", 3, -2, true}, {"aa", "aaa", "a", 2, 3, true}, {"abab", "BABABA", "ab", 2, -3, true}, {"baaB", "bAB", "baB", 2, -1, true}, {"aAb", "bb", "b", 1, 2, true}, {"abAB", "baBA", "abAB", 1, -1, true},
		{"a", "b", "", 0, 0, false}, {"ab", "ba", "", 0, 0, false}, {"ab", "AB", "", 0, 0, false}, {"aa", "ab", "", 0, 0, false}, {"ab", "aba", "", 0, 0, false}, {"abab", "baba", "", 0, 0, false}, {"baB", "a", "", 0, 0, false}, {"aab", "aba", "", 0, 0, false}, {"abA", "aBA", "abA", 1, -1, true}, {"abA", "b", "", 0, 0, false},
		{repeat("a", 30000), repeat("A", 30000), "a", 30000, -30000, true}, {long, repeat("BA", 14999), "ab", 15000, -14999, true}, {long, repeat("ba", 15000), "", 0, 0, false}, {long, "", "ab", 15000, 0, true}, {"", long, "ab", 0, 15000, true}, {repeat("aA", 15000), repeat("B", 30000), "B", 0, 30000, true}, {"a" + repeat("b", 29998) + "A", "aBBA", "abA", 29998, -2, true},
	} {
		r, m, n, ok, e := hang.Commute(x.u, x.v)
		if r != x.r || m != x.m || n != x.n || ok != x.ok || e != api.OK {
			t.Errorf("Commute(%q, %q): %q, %d, %d, %t, %d", brief(x.u), brief(x.v), brief(r), m, n, ok, e)
		}
	}
}

// P4.4 and P4.7: powers of one word, and others, of many letters.
func TestCommuteMany(t *testing.T) {
	for seed := range int64(300) {
		r := source(seed)
		nails := alphabet[:2+seed%3]
		w := letters(r, nails, 1+r.Intn(30))
		u := loose(r, power(w, r.Intn(13)-6), nails, r.Intn(20))
		v := loose(r, power(w, r.Intn(13)-6), nails, r.Intn(20))
		if seed%3 == 0 {
			v += letters(r, nails, 1)
		}
		want := longForm(u+v) == longForm(v+u)
		root, m, n, ok, e := hang.Commute(u, v)
		if ok != want || e != api.OK {
			t.Fatalf("Commute(%q, %q): %t, %d", u, v, ok, e)
		}
		if !ok {
			continue
		}
		checkPowers(t, u, v, root, m, n)
		if root == "" {
			continue
		}
		if s, one, e := hang.Root(root); s != root || one != 1 || e != api.OK {
			t.Fatalf("Commute(%q, %q): %q is a power", u, v, root)
		}
	}
}

// turnedInto returns the words with up to 4 letters of two nails into which one with up to 4 letters can be turned, by the definition. (Words with up to 4 letters do for that: the handles and less than the loop.)
func turnedInto(u string) map[string]bool {
	out := map[string]bool{}
	for _, x := range forms(2, 4) {
		if v := form(x + u + back(x)); len(v) <= 4 {
			out[v] = true
		}
	}
	return out
}

// P4.5: Turned, by the definition.
func TestTurned(t *testing.T) {
	all := append(forms(2, 4), "aAb", "bABa", "aA", "abBA", "abBb", "bBaA", "BbBb")
	turnable := 0
	for _, u := range all {
		into := turnedInto(u)
		for _, v := range all {
			x, ok, e := hang.Turned(u, v)
			if ok != into[form(v)] || e != api.OK || !ok && x != "" {
				t.Fatalf("Turned(%q, %q): %q, %t, %d", u, v, x, ok, e)
			}
			if ok {
				turnable++
				checkTurned(t, u, v, x)
			}
		}
	}
	if turnable < 500 {
		t.Errorf("%d pairs are turned", turnable)
	}
}

// checkTurned checks what Turned says of two words.
func checkTurned(t *testing.T, u, v, x string) {
	t.Helper()
	if hang.Check(x) != api.OK || longForm(x) != x || longForm(x+u+back(x)) != longForm(v) {
		t.Fatalf("Turned(%q, %q): %q", brief(u), brief(v), brief(x))
	}
}

// P4.5: Turned, cases that are worked out by hand.
func TestTurnedCases(t *testing.T) {
	high := repeat("c", 14999)
	for _, x := range []struct {
		u, v string
		want bool
	}{
		{"ab", "ba", true}, {"", "", true}, {"aA", "", true}, {"", "bB", true}, {"a", "a", true}, {"a", "baB", true}, {"baB", "a", true}, {"baB", "caC", true}, {"baaB", "caC", false}, {"a", "A", false}, {"a", "b", false}, {"a", "aa", false}, {"a", "", false}, {"", "a", false}, {"aab", "aba", true}, {"aab", "baa", true}, {"aabb", "abab", false}, {"abab", "baba", true}, {"ab", "BA", false}, {"abAB", "bABa", true}, {"abAB", "baBA", false}, {"abc", "cba", false}, {"abc", "cab", true}, {"zZabc", "xbcaX", true},
		{long, repeat("ba", 15000), true}, {long, long, true}, {long, repeat("BA", 15000), false}, {long, long[1:], false}, {repeat("a", 29999) + "b", "b" + repeat("a", 29999), true}, {repeat("a", 29999) + "b", repeat("a", 15000) + "b" + repeat("a", 14999), true}, {repeat("a", 29998) + "bb", repeat("a", 14999) + "b" + repeat("a", 14999) + "b", false}, {repeat("aab", 10000), repeat("baa", 10000), true}, {repeat("aab", 9999) + "abb", repeat("aab", 5000) + "abb" + repeat("aab", 4999), true}, {repeat("aab", 9999) + "abb", repeat("aab", 5000) + "bab" + repeat("aab", 4999), false},
		{high + "aa" + back(high), back(high) + "aa" + high, true}, {high + "ab" + back(high), back(high) + "ba" + high, true}, {high + "ab" + back(high), back(high) + "bA" + high, false}, {repeat("aA", 15000), repeat("bB", 15000), true},
		{repeat("a", 15000) + repeat("b", 15000), repeat("b", 15000) + repeat("a", 15000), true}, {repeat("c", 7500) + repeat("ab", 7500) + repeat("C", 7500), repeat("C", 7500) + repeat("ba", 7500) + repeat("c", 7500), true},
	} {
		y, ok, e := hang.Turned(x.u, x.v)
		if ok != x.want || e != api.OK || !ok && y != "" {
			t.Errorf("Turned(%q, %q): %q, %t, %d", brief(x.u), brief(x.v), brief(y), ok, e)
		} else if ok {
			checkTurned(t, x.u, x.v, y)
		}
	}
}

// P4.5 and P4.6: a word, its inverse and what it is turned into fall with the same sets.
func TestTurnedMany(t *testing.T) {
	for seed := range int64(150) {
		r := source(seed)
		nails := alphabet[seed%20 : seed%20+2+seed%5]
		u := tangle(r, nails, 4)
		x := letters(r, nails, r.Intn(30))
		v := loose(r, longForm(x+u+back(x)), nails, 10)
		y, ok, e := hang.Turned(u, v)
		if !ok || e != api.OK {
			t.Fatalf("Turned(%q, %q): %t, %d", u, v, ok, e)
		}
		checkTurned(t, u, v, y)
		sets, e := hang.Sets(u)
		must(t, e)
		inverse, e := hang.Inverse(u)
		must(t, e)
		for _, w := range []string{inverse, v, longForm(y + u + back(y))} {
			if same, e := hang.Sets(w); !slices.Equal(same, sets) || e != api.OK {
				t.Fatalf("Sets(%q): %q; Sets(%q): %q", u, sets, w, same)
			}
		}
	}
}

// P4.6: the same for all short words.
func TestTurnedSets(t *testing.T) {
	for _, u := range words(2, 4) {
		sets, e := hang.Sets(u)
		must(t, e)
		for _, v := range append(words(2, 2), "c") {
			for _, w := range []string{back(u), v + u + back(v), back(v) + back(u) + v} {
				same, e := hang.Sets(form(w)) // its nails may be fewer, or more, but not those with which it falls
				if !slices.Equal(same, sets) || e != api.OK {
					t.Fatalf("Sets(%q): %q; Sets(%q): %q", u, sets, w, same)
				}
			}
		}
	}
}

// P4.7: a commutator falls with all nails with which one of its words falls.
func TestCommutators(t *testing.T) {
	check := func(u, v, nails string) {
		t.Helper()
		w := commutator(u, v)
		for _, s := range subsets(nails) {
			first, e := hang.Falls(u, s)
			must(t, e)
			second, e := hang.Falls(v, s)
			must(t, e)
			if ok, e := hang.Falls(w, s); (first || second) && !ok || e != api.OK {
				t.Fatalf("Falls(%q, %q): %t, %d", brief(w), s, ok, e)
			}
		}
		_, _, _, ok, e := hang.Commute(u, v)
		must(t, e)
		if empty := reduces(t, w) == ""; ok != empty {
			t.Fatalf("Commute(%q, %q): %t, though the commutator is %q", u, v, ok, reduces(t, w))
		}
	}
	for _, u := range words(2, 3) {
		for _, v := range words(2, 3) {
			check(u, v, "ab")
		}
	}
	for seed := range int64(100) {
		r := source(seed)
		nails := alphabet[seed%20 : seed%20+3+seed%4]
		check(tangle(r, nails, 3), tangle(r, nails, 4), nails)
	}
}
