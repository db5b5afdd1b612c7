package shape_test

import (
	"fmt"
	"math/rand"
	"slices"
	"strings"
	"testing"

	"rabbet/api"
	"rabbet/shape"
)

// pairs is the pairs of a string: "0-01 1-12".
func pairs(s string) []shape.Pair {
	var out []shape.Pair
	for _, word := range strings.Fields(s) {
		face, over, _ := strings.Cut(word, "-")
		var p shape.Pair
		if l := lists(face); len(l) > 0 {
			p.Face = l[0]
		}
		if l := lists(over); len(l) > 0 {
			p.Over = l[0]
		}
		out = append(out, p)
	}
	return out
}

// incidences is all pairs of faces that may be in a matching.
func incidences(c [][]int) []shape.Pair {
	var out []shape.Pair
	all := allFaces(c)
	for _, f := range all {
		for _, g := range all {
			if len(g) == len(f)+1 && within(f, g) {
				out = append(out, shape.Pair{Face: f, Over: g})
			}
		}
	}
	return out
}

// isMatching is the definition: whatever lists of pairs there are, without one twice, none may be a round.
func isMatching(c [][]int, l []shape.Pair) bool {
	all := allFaces(c)
	var used [][]int
	for _, p := range l {
		if !hasList(all, p.Face) || !hasList(all, p.Over) || len(p.Over) != len(p.Face)+1 || !within(p.Face, p.Over) {
			return false
		}
		if hasList(used, p.Face) || hasList(used, p.Over) {
			return false
		}
		used = append(used, p.Face, p.Over)
	}
	follows := func(p, q shape.Pair) bool {
		return within(q.Face, p.Over) && len(q.Face) == len(p.Face) && !slices.Equal(q.Face, p.Face)
	}
	var round func(list []int) bool
	round = func(list []int) bool {
		last := l[list[len(list)-1]]
		if len(list) > 1 && follows(last, l[list[0]]) {
			return true
		}
		for i, p := range l {
			if !slices.Contains(list, i) && follows(last, p) && round(append(list, i)) {
				return true
			}
		}
		return false
	}
	for i := range l {
		if round([]int{i}) {
			return false
		}
	}
	return true
}

// critical is how many faces of each dimension are in no pair, as a string with blanks.
func critical(c [][]int, l []shape.Pair) string {
	var out []string
	for k := 0; k < 4 && len(faces(c, k)) > 0; k++ {
		n := 0
		for _, f := range faces(c, k) {
			if !slices.ContainsFunc(l, func(p shape.Pair) bool { return slices.Equal(p.Face, f) || slices.Equal(p.Over, f) }) {
				n++
			}
		}
		out = append(out, fmt.Sprint(n))
	}
	return strings.Join(out, " ")
}

// matched checks IsMatching and Critical of pairs, and returns whether they are a matching.
func matched(t *testing.T, c [][]int, l []shape.Pair) bool {
	t.Helper()
	is := shape.IsMatching(c, l)
	counts, e := shape.Critical(c, l)
	if !is {
		expect(t, fmt.Sprintf("Critical of %s, %v", text(c), l), api.ErrArg, values(counts, e))
		return false
	}
	if strings.Trim(fmt.Sprint(counts), "[]") != critical(c, l) || e != api.OK {
		t.Fatalf("Critical of %s, %v: %v, %d", text(c), l, counts, e)
	}
	return true
}

// P9.3: matchings by hand, and what is none.
func TestMatchingsByHand(t *testing.T) {
	for _, x := range []struct {
		facets, pairs string
		want          bool
	}{
		{"0", "", true},
		{"01 02 12", "", true},
		{"01 02 12", "0-01", true},
		{"01 02 12", "1-01", true},
		{"01 02 12", "2-01", false}, // it is not contained
		{"01 02 12", "0-01 1-12", true},
		{"01 02 12", "1-01 2-12", true},
		{"01 02 12", "1-12 0-01", true},
		{"01 02 12", "0-01 1-12 2-02", false}, // a round of three
		{"01 02 12", "2-02 0-01 1-12", false},
		{"01 02 12", "1-01 2-12 0-02", false},
		{"01 02 12", "0-01 1-01", false}, // 01 twice
		{"01 02 12", "0-01 0-02", false}, // 0 twice
		{"01 02 12", "0-01 0-01", false},
		{"01 02 12", "0-012", false}, // no face, and two vertices more
		{"01 02 12", "01-012", false},
		{"012", "01-012", true},
		{"012", "0-012", false},
		{"012", "0-01 1-12 12-012", false}, // 12 as both
		{"012", "12-012 1-12", false},
		{"012", "0-01 1-12 02-012", true},
		{"012", "0-01 1-12 2-02", false},
		{"012", "01-0", false}, // the other way around
		{"012", "0-0", false},
		{"012", "01-01", false},
		{"012", "01-02", false},
		{"012", "-0", false}, // not of a vertex
		{"012", "-", false},
		{"012", "0-", false},
		{"012", "0-3", false},
		{"012", "3-03", false},
		{"012", "0-03", false},
		{"012", "0-10", false}, // does not rise
		{"012", "0-00", false},
		{"012", "10-012", false},
		{"012", "01-021", false},
		{"012", "00-000", false},
		{"012", "012-0123", false},
		{"012", "0123-01234", false},
		{"0123", "012-0123", true},
		{"0123", "012-0123 013-0123", false},
		{"0123", "0123-01234", false},
		{"0123", "01230-012301", false},
		{"01 23", "0-01 2-23", true},
		{"01 23", "0-23", false},
		{"01 12 23 03", "0-01 1-12 2-23", true},
		{"01 12 23 03", "0-01 1-12 2-23 3-03", false},
		{"01 12 23 03", "0-01 1-12 3-23", true},
		{"01 12 23 03 0123", "0-01 1-12 2-23 3-03", false},
		{"012 013 023 123", "01-012 03-013 02-023", false}, // around 0: 01 leads to 02, 02 to 03, 03 to 01
		{"012 013 023 123", "01-013 03-023 02-012", false},
		{"012 013 023 123", "01-012 02-023 3-03", true},
		{"012 013 023 123", "01-012 02-023 3-03 03-013", false},
		{"012 013 123 023", "01-012 13-013 23-123", true},
		{"0 f 0f", "0-0f", true},
		{"0 f 0f", "f-0f", true},
		{"0 f 0f", "f-0f 0-0f", false},
	} {
		if matched(t, lists(x.facets), pairs(x.pairs)) != x.want || isMatching(lists(x.facets), pairs(x.pairs)) != x.want {
			t.Errorf("IsMatching of %s, %s: %t", x.facets, x.pairs, !x.want)
		}
	}
	for _, p := range []shape.Pair{
		{Face: []int{-1}, Over: []int{-1, 0}},
		{Face: []int{0}, Over: []int{0, 16}},
		{Face: slices.Repeat([]int{0}, 1000), Over: slices.Repeat([]int{0}, 1001)},
		{Face: []int{0, 1, 2, 3}, Over: []int{0, 1, 2, 3, 0}},
		{Face: nil, Over: nil},
	} {
		if matched(t, lists("0123"), []shape.Pair{p}) {
			t.Errorf("IsMatching of %v", p)
		}
	}
	if matched(t, lists("01 12"), slices.Repeat(pairs("0-01"), 100000)) {
		t.Errorf("IsMatching of many pairs")
	}
}

// P9.3: Critical by hand, up to the dimension of the complex.
func TestCriticalByHand(t *testing.T) {
	for _, x := range [][3]string{
		{"0", "", "1"},
		{"f", "", "1"},
		{"01", "", "2 1"},
		{"01", "0-01", "1 0"},
		{"01 02 12", "0-01 1-12", "1 1"},
		{"012", "0-01 1-12 02-012", "1 0 0"},
		{"012", "", "3 3 1"},
		{"0123", "", "4 6 4 1"},
		{"0123", "012-0123", "4 6 3 0"},
		{"0123 4", "1-01 2-02 3-03 12-012 13-013 23-023 123-0123", "2 0 0 0"},
	} {
		l, e := shape.Critical(lists(x[0]), pairs(x[1]))
		if strings.Trim(fmt.Sprint(l), "[]") != x[2] || e != api.OK {
			t.Errorf("Critical of %s, %s: %v, %d", x[0], x[1], l, e)
		}
	}
}

// P9.3: all sets of pairs of small complexes, each in some order.
func TestAllMatchings(t *testing.T) {
	r := newRand(31)
	for _, s := range []string{"0", "01", "01 12", "01 02 12", "012", "01 12 23 03", "012 13", "01 02 03", "01 02 12 03 13"} {
		c := lists(s)
		list := incidences(c)
		for set := range 1 << len(list) {
			var l []shape.Pair
			for i, p := range list {
				if set>>i&1 == 1 {
					l = append(l, p)
				}
			}
			r.Shuffle(len(l), func(i, j int) { l[i], l[j] = l[j], l[i] })
			if matched(t, c, l) != isMatching(c, l) {
				t.Fatalf("IsMatching of %s, %v: %t", s, l, !isMatching(c, l))
			}
		}
	}
}

// P9.3: random sets of pairs, in which each face is in one at most.
func TestRandomPairs(t *testing.T) {
	r := newRand(32)
	rounds, none := 0, 0
	for range 1500 {
		c := grown(r, nil, 1+r.Intn(5), 4+r.Intn(2), 1+r.Intn(3), 4)
		var l []shape.Pair
		list := incidences(c)
		most := r.Intn(14)
		for _, i := range r.Perm(len(list)) {
			p := list[i]
			if len(l) < most && !slices.ContainsFunc(l, func(q shape.Pair) bool {
				return hasList([][]int{q.Face, q.Over}, p.Face) || hasList([][]int{q.Face, q.Over}, p.Over)
			}) {
				l = append(l, p)
			}
		}
		is := isMatching(c, l)
		if matched(t, c, l) != is {
			t.Fatalf("IsMatching of %s, %v: %t", text(c), l, !is)
		}
		if is {
			none++
		} else {
			rounds++
		}
	}
	if rounds < 100 || none < 100 {
		t.Errorf("%d rounds, %d matchings", rounds, none)
	}
}

// parts is how many connected parts a complex has.
func parts(c [][]int) int {
	var groups [][]int
	for _, facet := range c {
		group := slices.Clone(facet)
		var others [][]int
		for _, other := range groups {
			if slices.ContainsFunc(other, func(v int) bool { return slices.Contains(facet, v) }) {
				group = append(group, other...)
			} else {
				others = append(others, other)
			}
		}
		groups = append(others, group)
	}
	return len(groups)
}

// match checks Match by the definition, and returns its pairs.
func match(t *testing.T, c [][]int) []shape.Pair {
	t.Helper()
	l, e := shape.Match(c)
	if e != api.OK || !matched(t, c, l) {
		t.Fatalf("Match of %s: %v, %d", text(c), l, e)
	}
	counts := must(shape.Critical(c, l))
	if counts[0] != parts(c) || counts[0] != betti(t, c, 0) {
		t.Fatalf("Match of %s: %v has %d critical vertices", text(c), l, counts[0])
	}
	return l
}

// P9.3
func TestMatch(t *testing.T) {
	r := newRand(33)
	for _, x := range known() {
		match(t, lists(x.facets))
		for range 20 {
			match(t, relabelled(r, lists(x.facets)))
		}
	}
	for range 500 {
		match(t, mixed(r))
	}
	for range 100 {
		// Paths and trees, in which the vertices come in any order.
		c := relabelled(r, lists("01 12 23 34 45 56 67 78 89 9a ab bc cd de ef"[:2+3*r.Intn(15)]))
		if l := match(t, c); len(l) != len(c) {
			t.Fatalf("Match of %s: %v", text(c), l)
		}
	}
	for range 100 {
		if c := grown(r, nil, 1+r.Intn(4), 5, 1, 4); !isMatching(c, match(t, c)) {
			t.Fatalf("Match of %s", text(c))
		}
	}
}

// randomMatching is random pairs, each of which is added if there still is a matching.
func randomMatching(r *rand.Rand, c [][]int) []shape.Pair {
	var l []shape.Pair
	list := incidences(c)
	share := 1 + r.Intn(4)
	for _, i := range r.Perm(len(list)) {
		if r.Intn(share) > 0 {
			continue
		}
		if longer := append(slices.Clip(l), list[i]); shape.IsMatching(c, longer) {
			l = longer
		}
	}
	return l
}

// morse checks P9.6 of a matching.
func morse(t *testing.T, c [][]int, l []shape.Pair) {
	t.Helper()
	counts := must(shape.Critical(c, l))
	euler := 0
	for k, n := range counts {
		if n < betti(t, c, k) {
			t.Fatalf("%s, %v: %d critical faces of dimension %d, but Betti %d", text(c), l, n, k, betti(t, c, k))
		}
		euler += []int{1, -1}[k%2] * n
	}
	if euler != must(shape.Euler(c)) {
		t.Fatalf("%s, %v: %v", text(c), l, counts)
	}
}

// P9.6 (Morse, Forman)
func TestMorse(t *testing.T) {
	r := newRand(34)
	for _, x := range known() {
		morse(t, lists(x.facets), match(t, lists(x.facets)))
		morse(t, lists(x.facets), nil)
	}
	for range 60 {
		c := mixed(r)
		morse(t, c, match(t, c))
		morse(t, c, randomMatching(r, c))
	}
}
