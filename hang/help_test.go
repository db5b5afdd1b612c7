package hang_test

import (
	"math/rand"
	"slices"
	"strings"
	"testing"

	"rabbet/api"
	"rabbet/hang"
)

const alphabet = "abcdefghijklmnopqrstuvwxyz"

// must fails if there is an error.
func must(t *testing.T, e api.Errno) {
	t.Helper()
	if e != api.OK {
		t.Fatalf("error %d", e)
	}
}

// brief returns the beginning of a string, for messages.
func brief(s string) string {
	if len(s) > 80 {
		return s[:80] + ".."
	}
	return s
}

// repeat returns n copies.
func repeat(s string, n int) string {
	return strings.Repeat(s, n)
}

// other returns the inverse of a letter.
func other(letter byte) byte {
	if 'a' <= letter && letter <= 'z' {
		return letter - 'a' + 'A'
	}
	return letter - 'A' + 'a'
}

// back returns the inverse of a word.
func back(w string) string {
	out := make([]byte, len(w))
	for i := range len(w) {
		out[len(w)-1-i] = other(w[i])
	}
	return string(out)
}

// power returns a word to the power n.
func power(w string, n int) string {
	if n < 0 {
		return repeat(back(w), -n)
	}
	return repeat(w, n)
}

// form returns the reduced form, by the definition: the first two neighbours that are inverses are taken out, again and again.
func form(w string) string {
	for i := 0; i+1 < len(w); {
		if w[i] == other(w[i+1]) {
			w = w[:i] + w[i+2:]
			i = max(i-1, 0)
		} else {
			i++
		}
	}
	return w
}

// longForm does the same for long words.
func longForm(w string) string {
	var out []byte
	for i := range len(w) {
		if n := len(out); n > 0 && out[n-1] == other(w[i]) {
			out = out[:n-1]
		} else {
			out = append(out, w[i])
		}
	}
	return string(out)
}

// without takes all letters for some nails out.
func without(w, pulled string) string {
	var out []byte
	for i := range len(w) {
		if !strings.Contains(pulled, strings.ToLower(w[i:i+1])) {
			out = append(out, w[i])
		}
	}
	return string(out)
}

// falls is the definition.
func falls(w, pulled string) bool {
	return longForm(without(w, pulled)) == ""
}

// nailsOf returns the set of nails that occur in words, or in sets.
func nailsOf(words ...string) string {
	all := strings.ToLower(strings.Join(words, ""))
	out := ""
	for i := range len(alphabet) {
		if strings.Contains(all, alphabet[i:i+1]) {
			out += alphabet[i : i+1]
		}
	}
	return out
}

// subsets returns all sets of some of the nails.
func subsets(nails string) []string {
	out := []string{""}
	for i := range len(nails) {
		for _, s := range out[:len(out):len(out)] {
			out = append(out, s+nails[i:i+1])
		}
	}
	return out
}

// holds reports whether a set contains another one.
func holds(set, part string) bool {
	for i := range len(part) {
		if !strings.Contains(set, part[i:i+1]) {
			return false
		}
	}
	return true
}

// meets reports whether two sets have a nail in common.
func meets(s, t string) bool {
	return strings.ContainsAny(s, t)
}

// leastOf returns the reduced list of sets, by the definition.
func leastOf(sets []string) []string {
	out := []string{}
	for _, s := range sets {
		above := func(t string) bool { return t != s && holds(s, t) }
		if !slices.ContainsFunc(sets, above) {
			out = append(out, s)
		}
	}
	slices.Sort(out)
	return slices.Compact(out)
}

// leastSuch returns the least sets of some nails for which something holds.
func leastSuch(nails string, ok func(string) bool) []string {
	var all []string
	for _, s := range subsets(nails) {
		if ok(s) {
			all = append(all, s)
		}
	}
	return leastOf(all)
}

// fallingSets returns the falling sets, by the definition.
func fallingSets(w string) []string {
	return leastSuch(nailsOf(w), func(s string) bool { return falls(w, s) })
}

// dualOf returns the dual, by the definition.
func dualOf(sets []string) []string {
	return leastSuch(nailsOf(sets...), func(s string) bool {
		return !slices.ContainsFunc(sets, func(t string) bool { return !meets(s, t) })
	})
}

// words returns all words of the first k nails with up to n letters.
func words(k, n int) []string {
	letters := alphabet[:k] + strings.ToUpper(alphabet[:k])
	out := []string{""}
	first := 0
	for range n {
		end := len(out)
		for _, w := range out[first:end] {
			for i := range len(letters) {
				out = append(out, w+letters[i:i+1])
			}
		}
		first = end
	}
	return out
}

// forms returns those of them that are reduced.
func forms(k, n int) []string {
	return slices.DeleteFunc(words(k, n), func(w string) bool { return form(w) != w })
}

// commutator returns u, v, the inverse of u and the inverse of v.
func commutator(u, v string) string {
	return u + v + back(u) + back(v)
}

// source returns a source of numbers, the same one for the same seed.
func source(seed int64) *rand.Rand {
	return rand.New(rand.NewSource(seed))
}

// letters returns a word of n letters for the given nails.
func letters(r *rand.Rand, nails string, n int) string {
	out := make([]byte, n)
	for i := range out {
		out[i] = nails[r.Intn(len(nails))]
		if r.Intn(2) == 0 {
			out[i] = other(out[i])
		}
	}
	return string(out)
}

// tangle returns a word that falls with some of the nails: words that are put together, turned and made commutators.
func tangle(r *rand.Rand, nails string, depth int) string {
	if depth == 0 {
		return letters(r, nails, 1)
	}
	u, v := tangle(r, nails, depth-1), tangle(r, nails, depth-1)
	switch r.Intn(4) {
	case 0:
		return u + v
	case 1:
		return u + v + back(u)
	}
	return commutator(u, v)
}

// loose returns the same wire with pairs of inverses put in.
func loose(r *rand.Rand, w, nails string, pairs int) string {
	for range pairs {
		at := r.Intn(len(w) + 1)
		x := letters(r, nails, 1)
		w = w[:at] + x + back(x) + w[at:]
	}
	return w
}

// someSets returns n sets of from low to high of the nails.
func someSets(r *rand.Rand, nails string, n, low, high int) []string {
	var out []string
	for range n {
		size := low + r.Intn(high-low+1)
		set := ""
		for i, k := range r.Perm(len(nails)) {
			if i < size {
				set += nails[k : k+1]
			}
		}
		out = append(out, nailsOf(set))
	}
	return out
}

// ofSize returns the sets of that many of the nails.
func ofSize(nails string, size int) []string {
	return slices.DeleteFunc(subsets(nails), func(s string) bool { return len(s) != size })
}

// shortLists returns all lists of up to n sets of some nails.
func shortLists(nails string, n int) [][]string {
	out := [][]string{nil}
	first := 0
	for range n {
		end := len(out)
		for _, list := range out[first:end] {
			for _, s := range subsets(nails) {
				out = append(out, append(slices.Clone(list), s))
			}
		}
		first = end
	}
	return out
}

// reducedLists returns all lists of sets of some nails of which none contains another one, in the order of strings.
func reducedLists(nails string) [][]string {
	all := subsets(nails)
	slices.Sort(all)
	var out [][]string
	var list []string
	var more func(first int)
	more = func(first int) {
		out = append(out, slices.Clone(list))
		for i, s := range all[first:] {
			comparable := func(t string) bool { return holds(s, t) || holds(t, s) }
			if !slices.ContainsFunc(list, comparable) {
				list = append(list, s)
				more(first + i + 1)
				list = list[:len(list)-1]
			}
		}
	}
	more(0)
	return out
}

// manySets returns long lists of sets of up to ten nails, most of them with as many sets as there may be.
func manySets() [][]string {
	ten := alphabet[:10]
	out := [][]string{
		ofSize(ten, 1), ofSize(ten, 2), ofSize(ten, 8), ofSize(ten, 9), ofSize(ten, 10),
		ofSize(ten[:9], 3), ofSize(ten[:9], 6), ofSize(ten[:8], 4), ofSize(ten[:8], 5), ofSize(ten, 5)[:100], ofSize(ten, 3)[20:],
		{"ab", "cd", "ef", "gh", "ij"}, {"abcde", "fghij"}, {"ab", "bc", "cd", "de", "ef", "fg", "gh", "hi", "ij", "aj"},
	}
	for seed := range int64(24) {
		r := source(seed)
		low := 1 + int(seed%6)
		out = append(out, someSets(r, "bdfhjlprtz", 100-int(seed%3)*20, low, low+int(seed%4)))
	}
	return out
}

// reduces calls hang.Reduce, which must do.
func reduces(t *testing.T, w string) string {
	t.Helper()
	out, e := hang.Reduce(w)
	must(t, e)
	return out
}
