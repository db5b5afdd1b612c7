package plan_test

import (
	"math/rand"
	"slices"
	"testing"

	"rabbet/api"
	"rabbet/plan"
)

// lists returns all permutations of n elements, the least one first.
func lists(n int) [][]int {
	var out [][]int
	var p []int
	var more func()
	more = func() {
		if len(p) == n {
			out = append(out, slices.Clone(p))
		}
		for v := range n {
			if !slices.Contains(p, v) {
				p = append(p, v)
				more()
				p = p[:len(p)-1]
			}
		}
	}
	more()
	return out
}

// up returns 0 to n - 1.
func up(n int) []int {
	out := []int{}
	for i := range n {
		out = append(out, i)
	}
	return out
}

// down returns n - 1 to 0.
func down(n int) []int {
	out := up(n)
	slices.Reverse(out)
	return out
}

// zigzag returns n/2, 0, n/2 + 1, 1 and so on.
func zigzag(n int) []int {
	var out []int
	for i := range n / 2 {
		out = append(out, n/2+i, i)
	}
	return out
}

// mixed returns some permutation of n elements, the same one for the same seed.
func mixed(seed int64, n int) []int {
	return rand.New(rand.NewSource(seed)).Perm(n)
}

// must fails if there is an error.
func must(t *testing.T, e api.Errno) {
	t.Helper()
	if e != api.OK {
		t.Fatalf("error %d", e)
	}
}

// of returns the plan of a permutation.
func of(t *testing.T, p []int) plan.Plan {
	t.Helper()
	x, e := plan.FromPerm(p)
	must(t, e)
	return x
}

// big returns plans with many rooms, up to the limit.
func big(t *testing.T) []plan.Plan {
	t.Helper()
	out := []plan.Plan{of(t, up(api.MaxPerm)), of(t, down(api.MaxPerm)), of(t, zigzag(api.MaxPerm))}
	for seed := range int64(12) {
		out = append(out, of(t, mixed(seed, 60-int(seed%4)*7)))
	}
	return out
}

// strips returns n rooms side by side, or one above the other.
func strips(n int, across bool) plan.Plan {
	var x plan.Plan
	for i := range n {
		if across {
			x = append(x, [4]int{0, i, n, i + 1})
		} else {
			x = append(x, [4]int{i, 0, i + 1, n})
		}
	}
	return x
}

// floors returns all floor plans for n rooms, from the definition: the first free cell is the upper left one of a room, again and again.
func floors(n int) []plan.Plan {
	var out []plan.Plan
	x := make(plan.Plan, n)
	owner := make([][]bool, n)
	for i := range owner {
		owner[i] = make([]bool, n)
	}
	var more func()
	more = func() {
		left, top, ok := firstFree(owner)
		if !ok {
			out = append(out, slices.Clone(x))
			return
		}
		for right := left + 1; right <= n; right++ {
			for bottom := top + 1; bottom <= n; bottom++ {
				k := max(left, top)
				if min(right, bottom) != k+1 || !free(owner, left, top, right, bottom) { // it has just one cell of the diagonal
					continue
				}
				x[k] = [4]int{left, top, right, bottom}
				mark(owner, x[k], true)
				more()
				mark(owner, x[k], false)
			}
		}
	}
	more()
	return out
}

func firstFree(owner [][]bool) (int, int, bool) {
	for row := range owner {
		for column := range owner {
			if !owner[row][column] {
				return column, row, true
			}
		}
	}
	return 0, 0, false
}

func free(owner [][]bool, left, top, right, bottom int) bool {
	for row := top; row < bottom; row++ {
		if slices.Contains(owner[row][left:right], true) {
			return false
		}
	}
	return true
}

func mark(owner [][]bool, room [4]int, to bool) {
	for row := room[1]; row < room[3]; row++ {
		for column := room[0]; column < room[2]; column++ {
			owner[row][column] = to
		}
	}
}

// floorsTo returns all floor plans for up to n rooms.
func floorsTo(n int) []plan.Plan {
	var out []plan.Plan
	for i := 1; i <= n; i++ {
		out = append(out, floors(i)...)
	}
	return out
}

// cells returns the room of each cell, by rows.
func cells(x plan.Plan) [][]int {
	out := make([][]int, len(x))
	for row := range out {
		out[row] = make([]int, len(x))
		for column := range out[row] {
			out[row][column] = slices.IndexFunc(x, func(r [4]int) bool {
				return r[0] <= column && column < r[2] && r[1] <= row && row < r[3]
			})
		}
	}
	return out
}

// turned exchanges the columns and the rows, so that what is above is on the left.
func turned(x plan.Plan) plan.Plan {
	var out plan.Plan
	for _, r := range x {
		out = append(out, [4]int{r[1], r[0], r[3], r[2]})
	}
	return out
}

// leftOf returns which room is left of which, from the definition: vertical walls are runs of edges between different rooms.
func leftOf(x plan.Plan) [][]bool {
	n, at := len(x), cells(x)
	out := make([][]bool, n)
	for i := range out {
		out[i] = make([]bool, n)
	}
	for c := 1; c < n; c++ {
		for row := 0; row < n; row++ {
			start := row
			for row < n && at[row][c-1] != at[row][c] {
				row++
			}
			for i := start; i < row; i++ { // the wall is from start to row
				for j := start; j < row; j++ {
					out[at[i][c-1]][at[j][c]] = true
				}
			}
		}
	}
	for through := range n {
		for a := range n {
			for b := range n {
				out[a][b] = out[a][b] || out[a][through] && out[through][b]
			}
		}
	}
	return out
}

// aboveOf returns which room is above which.
func aboveOf(x plan.Plan) [][]bool {
	return leftOf(turned(x))
}

// touching returns which rooms touch the left or the lower side of which, along more than a point.
func touching(x plan.Plan) [][]bool {
	out := make([][]bool, len(x))
	for i, r := range x {
		out[i] = make([]bool, len(x))
		for j, s := range x {
			left := s[2] == r[0] && max(r[1], s[1]) < min(r[3], s[3])
			below := s[1] == r[3] && max(r[0], s[0]) < min(r[2], s[2])
			out[i][j] = left || below
		}
	}
	return out
}

// keeps reports whether each room comes after all that touch its left or its lower side.
func keeps(p []int, touch [][]bool) bool {
	for i, r := range p {
		for _, s := range p[i:] {
			if touch[r][s] {
				return false
			}
		}
	}
	return true
}

// pinned reports whether rooms are a pinwheel, from the definition.
func pinned(left, above [][]bool, a, b, c, d int) bool {
	one := above[a][b] && above[a][d] && left[b][c] && left[b][d] && left[a][c] && above[c][d]
	two := left[a][b] && left[a][d] && above[a][c] && above[b][c] && above[b][d] && left[c][d]
	return one || two
}

// tuples calls do with all lists of four numbers from low up to high.
func tuples(low, high int, do func(a, b, c, d int)) {
	for a := low; a <= high; a++ {
		for b := low; b <= high; b++ {
			for c := low; c <= high; c++ {
				for d := low; d <= high; d++ {
					do(a, b, c, d)
				}
			}
		}
	}
}

// pinwheels returns how many pinwheels there are.
func pinwheels(x plan.Plan) int {
	left, above := leftOf(x), aboveOf(x)
	count := 0
	tuples(0, len(x)-1, func(a, b, c, d int) {
		if pinned(left, above, a, b, c, d) {
			count++
		}
	})
	return count
}
