package plan_test

import (
	"reflect"
	"slices"
	"strconv"
	"testing"

	"rabbet/api"
	"rabbet/plan"
)

func room(k int) plan.Cut             { return plan.Cut{Room: k} }
func row(parts ...plan.Cut) plan.Cut  { return plan.Cut{Parts: parts} }
func pile(parts ...plan.Cut) plan.Cut { return plan.Cut{Across: true, Parts: parts} }

// write is a tree as text: nil and empty slices are the same in it.
func write(t plan.Cut) string {
	out := strconv.FormatBool(t.Across) + strconv.Itoa(t.Room) + "("
	for _, part := range t.Parts {
		out += write(part)
	}
	return out + ")"
}

// region checks a tree by the definition, and returns the part of the floor that it is of: parts of a node are side by side, or one above the other, and of the same height or width.
func region(t *testing.T, x plan.Plan, c plan.Cut) [4]int {
	t.Helper()
	if len(c.Parts) == 0 {
		if c.Across || c.Room < 0 || c.Room >= len(x) {
			t.Fatalf("a leaf: %s", write(c))
		}
		return x[c.Room]
	}
	if c.Room != 0 || len(c.Parts) < 2 {
		t.Fatalf("a node: %s", write(c))
	}
	along, aside := 0, 1
	if c.Across {
		along, aside = 1, 0
	}
	out := region(t, x, c.Parts[0])
	for i, part := range c.Parts {
		if len(part.Parts) > 0 && part.Across == c.Across {
			t.Fatalf("a node in one of its own kind: %s", write(c))
		}
		next := region(t, x, part)
		if i > 0 && (next[along] != out[along+2] || next[aside] != out[aside] || next[aside+2] != out[aside+2]) {
			t.Fatalf("parts that do not fit: %s", write(c))
		}
		out[along+2] = next[along+2]
	}
	return out
}

// leaves returns the rooms of a tree.
func leaves(c plan.Cut) []int {
	if len(c.Parts) == 0 {
		return []int{c.Room}
	}
	var out []int
	for _, part := range c.Parts {
		out = append(out, leaves(part)...)
	}
	return out
}

// P3.4: Slice, by the definition.
func TestSlice(t *testing.T) {
	plans := append(floorsTo(7), big(t)...)
	for n := 8; n <= 60; n += 13 {
		plans = append(plans, of(t, walled(n)), of(t, nested(n)))
	}
	trees := 0
	for _, x := range plans {
		c, ok, e := plan.Slice(x)
		if ok != guillotine(x, up(len(x))) || e != api.OK {
			t.Fatalf("Slice(%v): %t, %d", x, ok, e)
		}
		if !ok {
			if !reflect.ValueOf(c).IsZero() {
				t.Fatalf("Slice(%v): %s, but none exists", x, write(c))
			}
			continue
		}
		trees++
		rooms := leaves(c)
		slices.Sort(rooms)
		if region(t, x, c) != [4]int{0, 0, len(x), len(x)} || !slices.Equal(rooms, up(len(x))) {
			t.Fatalf("Slice(%v): %s", x, write(c))
		}
	}
	if trees == 0 || trees == len(plans) {
		t.Errorf("%d trees of %d plans", trees, len(plans))
	}
}

// nested returns a permutation whose plan is cut off at the left and above in turn, one room at a time: its tree has as many levels as there are rooms.
func nested(n int) []int {
	p := []int{0}
	for k := 1; k < n; k++ {
		next := []int{}
		for _, v := range p {
			next = append(next, v+1)
		}
		if k%2 == 0 {
			p = append([]int{0}, next...) // left of all others
		} else {
			p = append(next, 0) // above all others
		}
	}
	return p
}

// P3.4: trees that are worked out by hand, the chapter's examples among them.
func TestSliceCases(t *testing.T) {
	var all []plan.Cut
	for k := range 60 {
		all = append(all, room(k))
	}
	for _, x := range []struct {
		p    []int
		want plan.Cut
	}{
		{[]int{0}, room(0)},
		{[]int{0, 1}, row(room(0), room(1))},
		{[]int{1, 0}, pile(room(0), room(1))},
		{[]int{0, 1, 2}, row(room(0), room(1), room(2))},
		{[]int{2, 1, 0}, pile(room(0), room(1), room(2))},
		{[]int{1, 0, 2}, row(pile(room(0), room(1)), room(2))},
		{[]int{2, 0, 1}, pile(row(room(0), room(1)), room(2))},
		{[]int{0, 2, 1}, row(room(0), pile(room(1), room(2)))},
		{[]int{1, 2, 0}, pile(room(0), row(room(1), room(2)))},
		{[]int{1, 3, 0, 2}, row(pile(room(0), room(1)), pile(room(2), room(3)))},
		{[]int{2, 0, 3, 1}, pile(row(room(0), room(1)), row(room(2), room(3)))},
		{[]int{0, 4, 2, 3, 1}, row(room(0), pile(room(1), row(room(2), room(3)), room(4)))},
		{up(60), row(all...)},
		{down(60), pile(all...)},
	} {
		if c, ok, e := plan.Slice(of(t, x.p)); write(c) != write(x.want) || !ok || e != api.OK {
			t.Errorf("Slice of the plan of %v: %s, %t, %d, not %s", x.p, write(c), ok, e, write(x.want))
		}
	}
	if c, ok, e := plan.Slice(of(t, []int{1, 4, 2, 0, 3})); ok || !reflect.ValueOf(c).IsZero() || e != api.OK {
		t.Errorf("Slice of a pinwheel: %s, %t, %d", write(c), ok, e)
	}
	depth := 0
	for c, _, _ := plan.Slice(of(t, nested(60))); len(c.Parts) > 0; c = c.Parts[1] {
		if len(c.Parts) != 2 {
			t.Fatalf("nested: %s", write(c))
		}
		depth++
	}
	if depth != 59 {
		t.Errorf("nested: %d levels", depth)
	}
}
