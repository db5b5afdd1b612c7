package plan

import "rabbet/api"

// Cut is a cut tree.
type Cut struct {
	Across bool
	Room   int
	Parts  []Cut
}

// Slice returns the tree of cuts.
func Slice(x Plan) (Cut, bool, api.Errno) {
	if e := Check(x); e != api.OK {
		return Cut{}, false, e
	}
	t, ok := cutTree(x, 0, len(x))
	return t, ok, api.OK
}

// cutTree returns the tree of a part of the floor. A wall through a part at some position has the rooms of lesser numbers before it, so that each part has neighbouring numbers: those from first on, before end.
func cutTree(x Plan, first, end int) (Cut, bool) {
	if end-first == 1 {
		return Cut{Room: first}, true
	}
	for _, d := range []direction{rightward, downward} {
		ends := cuts(x, first, end, d)
		if len(ends) < 2 {
			continue
		}
		t := Cut{Across: d == downward}
		for _, next := range ends {
			part, ok := cutTree(x, first, next)
			if !ok {
				return Cut{}, false
			}
			t.Parts = append(t.Parts, part)
			first = next
		}
		return t, true
	}
	return Cut{}, false
}

// cuts returns the ends of the parts into which walls through all of a part divide it.
func cuts(x Plan, first, end int, d direction) []int {
	var crossed [api.MaxPerm]bool
	for _, side := range sides(x[first:end], d) {
		for at := side[0] + 1; at < side[1]; at++ {
			crossed[at] = true
		}
	}
	var out []int
	for at := first + 1; at < end; at++ {
		if !crossed[at] {
			out = append(out, at)
		}
	}
	return append(out, end)
}
