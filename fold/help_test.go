package fold_test

import (
	"math/rand"
	"slices"
	"strings"
	"testing"

	"rabbet/api"
	"rabbet/fold"
)

const alphabet = "aAbBcCdD"

// must fails if there is an error.
func must(t *testing.T, e api.Errno) {
	t.Helper()
	if e != api.OK {
		t.Fatalf("error %d", e)
	}
}

// brief returns the beginning of a string, for messages.
func brief(s string) string {
	if len(s) > 60 {
		return s[:60] + ".."
	}
	return s
}

// repeat returns n copies.
func repeat(s string, n int) string {
	return strings.Repeat(s, n)
}

// code returns the number of a letter: 0 for a, 1 for A, 2 for b.
func code(letter byte) int {
	return strings.IndexByte(alphabet, letter)
}

// back returns the inverse of a word.
func back(w string) string {
	out := make([]byte, len(w))
	for i := range len(w) {
		out[len(w)-1-i] = w[i] ^ 'a' ^ 'A'
	}
	return string(out)
}

// form returns the reduced form.
func form(w string) string {
	var out []byte
	for i := range len(w) {
		if n := len(out); n > 0 && out[n-1] == w[i]^'a'^'A' {
			out = out[:n-1]
		} else {
			out = append(out, w[i])
		}
	}
	return string(out)
}

// words returns all words of k nails with at most n letters.
func words(k, n int) []string {
	out := []string{""}
	for start := 0; n > 0; n-- {
		end := len(out)
		for _, w := range out[start:end:end] {
			for x := range 2 * k {
				out = append(out, w+alphabet[x:x+1])
			}
		}
		start = end
	}
	return out
}

// reducedWords returns those that are reduced.
func reducedWords(k, n int) []string {
	return slices.DeleteFunc(words(k, n), func(w string) bool { return form(w) != w })
}

// randomWord returns a word of k nails with n letters.
func randomWord(r *rand.Rand, k, n int) string {
	out := make([]byte, n)
	for i := range out {
		out[i] = alphabet[r.Intn(2*k)]
	}
	return string(out)
}

// randomWords returns some words.
func randomWords(r *rand.Rand, k, count, letters int) []string {
	var out []string
	for range r.Intn(count + 1) {
		out = append(out, randomWord(r, k, r.Intn(letters+1)))
	}
	return out
}

// link is an edge of a small letter, of the number 0 for a, 1 for b.
type link struct{ from, letter, to int }

// path returns links for a word between two vertices. Vertices in between have the numbers from size on.
func path(from, to int, w string, size int) []link {
	var out []link
	for i := range len(w) {
		at := from
		if i < len(w)-1 {
			from = size + i
		} else {
			from = to
		}
		if x := code(w[i]); x%2 == 0 {
			out = append(out, link{at, x / 2, from})
		} else {
			out = append(out, link{from, x / 2, at})
		}
	}
	return out
}

// clash returns two vertices that must be one, if there are any.
func clash(links []link) (int, int, bool) {
	for i, one := range links {
		for _, two := range links[:i] {
			if one.letter == two.letter && one.from == two.from && one.to != two.to {
				return one.to, two.to, true
			}
			if one.letter == two.letter && one.to == two.to && one.from != two.from {
				return one.from, two.from, true
			}
		}
	}
	return 0, 0, false
}

// merged returns the links after two vertices became one.
func merged(links []link, v, w int) []link {
	v, w = min(v, w), max(v, w)
	var out []link
	for _, l := range links {
		if l.from == w {
			l.from = v
		}
		if l.to == w {
			l.to = v
		}
		if !slices.Contains(out, l) {
			out = append(out, l)
		}
	}
	return out
}

// pruned returns the links without those of dead ends, vertex 0 being none.
func pruned(links []link) []link {
	for {
		ends := map[int]int{}
		for _, l := range links {
			ends[l.from]++
			ends[l.to]++
		}
		rest := slices.DeleteFunc(slices.Clone(links), func(l link) bool {
			return l.from != 0 && ends[l.from] == 1 || l.to != 0 && ends[l.to] == 1
		})
		if len(rest) == len(links) {
			return links
		}
		links = rest
	}
}

// numbered returns the graph of links that are folded, of all vertices that are met from 0 on.
func numbered(k int, links []link) fold.Graph {
	type place struct{ v, x int }
	leads := map[place]int{}
	for _, l := range links {
		leads[place{l.from, 2 * l.letter}] = l.to
		leads[place{l.to, 2*l.letter + 1}] = l.from
	}
	number := map[int]int{0: 0}
	met := []int{0}
	g := fold.Graph{K: k}
	for i := 0; i < len(met); i++ {
		row := make([]int, 2*k)
		for x := range row {
			to, ok := leads[place{met[i], x}]
			if !ok {
				row[x] = -1
				continue
			}
			if _, ok := number[to]; !ok {
				number[to] = len(met)
				met = append(met, to)
			}
			row[x] = number[to]
		}
		g.Next = append(g.Next, row)
	}
	return g
}

// graphOf returns the graph of the group of some words, by the definition: circles of the words, folded.
func graphOf(k int, generators ...string) fold.Graph {
	var links []link
	for i, w := range generators {
		links = append(links, path(0, 0, form(w), 1+1000000*i)...)
	}
	for {
		v, w, ok := clash(links)
		if !ok {
			return numbered(k, pruned(links))
		}
		links = merged(links, v, w)
	}
}

// linksOf returns the links of a graph.
func linksOf(g fold.Graph) []link {
	var out []link
	for v, row := range g.Next {
		for i := range g.K {
			if row[2*i] >= 0 {
				out = append(out, link{v, i, row[2*i]})
			}
		}
	}
	return out
}

// circle returns the graph of the n-th power of a letter.
func circle(k int, letter byte, n int) fold.Graph {
	return numbered(k, path(0, 0, repeat(string([]byte{letter}), n), 1))
}

// necklace returns the graph of a circle of the letter a in k nails with n vertices, each with circles of one edge for all other letters but those that are left out.
func necklace(k, n int, skip func(v, letter int) bool) fold.Graph {
	links := path(0, 0, repeat("a", n), 1)
	for v := range n {
		for i := 1; i < k; i++ {
			if skip == nil || !skip(v, i) {
				links = append(links, link{v, i, v})
			}
		}
	}
	return numbered(k, links)
}

// isFolded is the definition.
func isFolded(g fold.Graph) bool {
	n := len(g.Next)
	if g.K < 1 || g.K > 4 || n < 1 || n > 5000 {
		return false
	}
	for _, row := range g.Next {
		if len(row) != 2*g.K || slices.Min(row) < -1 || slices.Max(row) >= n {
			return false
		}
	}
	for v := range n {
		edges := 0
		for x, to := range g.Next[v] {
			if to < 0 {
				continue
			}
			edges++
			if g.Next[to][x^1] != v {
				return false
			}
		}
		if v > 0 && edges < 2 {
			return false
		}
	}
	met := []int{0}
	for i := 0; i < len(met); i++ {
		for _, to := range g.Next[met[i]] {
			if to >= 0 && !slices.Contains(met, to) {
				met = append(met, to)
			}
		}
	}
	return len(met) == n && slices.IsSorted(met)
}

// way returns the vertex to which a word leads from another one, or -1.
func way(g fold.Graph, from int, w string) int {
	for i := range len(w) {
		if from < 0 {
			return from
		}
		from = g.Next[from][code(w[i])]
	}
	return from
}

// has is the definition.
func has(g fold.Graph, w string) bool {
	return way(g, 0, form(w)) == 0
}

// treeWays returns the tree ways of all vertices, and how each is met: by which letter of which vertex.
func treeWays(g fold.Graph) (ways []string, from, by []int) {
	n := len(g.Next)
	ways, from, by = make([]string, n), slices.Repeat([]int{-1}, n), slices.Repeat([]int{-1}, n)
	for v, row := range g.Next {
		for x, to := range row {
			if to > 0 && from[to] < 0 {
				ways[to], from[to], by[to] = ways[v]+alphabet[x:x+1], v, x
			}
		}
	}
	return ways, from, by
}

// basisOf is the definition.
func basisOf(g fold.Graph) []string {
	ways, from, by := treeWays(g)
	var out []string
	for v, row := range g.Next {
		for x := 0; x < len(row); x += 2 {
			to := row[x]
			if to < 0 || from[to] == v && by[to] == x || from[v] == to && by[v] == x+1 {
				continue
			}
			out = append(out, form(ways[v]+alphabet[x:x+1]+back(ways[to])))
		}
	}
	return out
}

// written returns the word that an expression denotes, not reduced.
func written(basis []string, list []int) string {
	out := ""
	for _, i := range list {
		if i > 0 {
			out += basis[i-1]
		} else {
			out += back(basis[-i-1])
		}
	}
	return out
}

// copied returns a graph with the same numbers.
func copied(g fold.Graph) fold.Graph {
	out := fold.Graph{K: g.K}
	for _, row := range g.Next {
		out.Next = append(out.Next, slices.Clone(row))
	}
	return out
}

// same reports whether two graphs are the same.
func same(g, h fold.Graph) bool {
	return g.K == h.K && slices.EqualFunc(g.Next, h.Next, slices.Equal)
}

// isZero reports whether a graph is the zero value.
func isZero(g fold.Graph) bool {
	return g.K == 0 && len(g.Next) == 0
}

// folded returns the graph that Fold returns.
func folded(t *testing.T, k int, generators ...string) fold.Graph {
	t.Helper()
	g, e := fold.Fold(k, generators)
	if e != api.OK {
		t.Fatalf("Fold(%d, %q): %d", k, generators, e)
	}
	return g
}

// samples returns graphs of groups: some that are special, and many at random.
func samples(seed int64, count int) []fold.Graph {
	r := rand.New(rand.NewSource(seed))
	var out []fold.Graph
	for k := 1; k <= 4; k++ {
		out = append(out, graphOf(k), graphOf(k, "a"), graphOf(k, "aaa"), graphOf(k, strings.Split("abcd"[:k], "")...), graphOf(k, alphabet[2*k-2:2*k-1]))
		if k > 1 {
			out = append(out, graphOf(k, "abAB"), graphOf(k, "aa", "b"), graphOf(k, "aa", "b", "abA"), graphOf(k, "aabAA"), graphOf(k, "aa", "bb", "abab"))
		}
	}
	for len(out) < count {
		k := 1 + r.Intn(4)
		out = append(out, graphOf(k, randomWords(r, k, 4, 8)...))
	}
	return out
}

// tables returns all graphs of n vertices whose edges lead anywhere, folded or not.
func tables(k, n int, each func(fold.Graph)) {
	g := fold.Graph{K: k}
	for range n {
		g.Next = append(g.Next, slices.Repeat([]int{-1}, 2*k))
	}
	for {
		each(g)
		i := 0
		for ; i < n*2*k; i++ {
			place := &g.Next[i/(2*k)][i%(2*k)]
			if *place++; *place < n {
				break
			}
			*place = -1
		}
		if i == n*2*k {
			return
		}
	}
}

// foldedTables returns all folded graphs with few vertices.
func foldedTables() []fold.Graph {
	var out []fold.Graph
	for _, x := range [][2]int{{1, 1}, {1, 2}, {1, 3}, {1, 4}, {2, 1}, {2, 2}, {3, 1}, {4, 1}} {
		tables(x[0], x[1], func(g fold.Graph) {
			if isFolded(g) {
				out = append(out, copied(g))
			}
		})
	}
	return out
}
