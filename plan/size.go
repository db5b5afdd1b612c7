package plan

import (
	"slices"

	"rabbet/api"
)

// maxSize is the greatest width or height that a room may need.
const maxSize = 1_000_000_000

// checkSized tells whether x is a plan, and sizes has a size for each room.
func checkSized(x Plan, sizes [][2]int64) api.Errno {
	if e := Check(x); e != api.OK {
		return e
	}
	if len(sizes) != len(x) {
		return api.ErrShape
	}
	for _, size := range sizes {
		if min(size[0], size[1]) < 1 || max(size[0], size[1]) > maxSize {
			return api.ErrArg
		}
	}
	return api.OK
}

// reach is how far rooms need a wall to be, and the room that needs it.
type reach struct {
	length int64
	room   int
}

// reaches returns the reach for each wall by its position, the last one being that of the square's side.
func reaches(x Plan, sizes [][2]int64, d direction) []reach {
	out := make([]reach, len(x)+1)
	for k, side := range sides(x, d) {
		length := out[side[0]].length + sizes[k][d]
		if length > out[side[1]].length {
			out[side[1]] = reach{length, k}
		}
	}
	return out
}

// Fit returns the width and the height of the fitted floor.
func Fit(x Plan, sizes [][2]int64) (int64, int64, api.Errno) {
	if e := checkSized(x, sizes); e != api.OK {
		return 0, 0, e
	}
	width := reaches(x, sizes, rightward)[len(x)].length
	height := reaches(x, sizes, downward)[len(x)].length
	return width, height, api.OK
}

// Chain returns rooms that follow each other and need all of the fitted floor's width, or height.
func Chain(x Plan, sizes [][2]int64, across bool) ([]int, api.Errno) {
	if e := checkSized(x, sizes); e != api.OK {
		return nil, e
	}
	d := rightward
	if across {
		d = downward
	}
	walls := reaches(x, sizes, d)
	var out []int
	for at := len(x); at > 0; {
		k := walls[at].room
		out = append(out, k)
		at = x[k][d]
	}
	slices.Reverse(out)
	return out, api.OK
}

// Curve returns the least widths and heights of fitted floors whose rooms may be turned.
func Curve(x Plan, sizes [][2]int64) ([][2]int64, api.Errno) {
	if e := checkSized(x, sizes); e != api.OK {
		return nil, e
	}
	t, ok := cutTree(x, 0, len(x))
	if !ok {
		return nil, api.ErrNone
	}
	return curve(t, sizes), api.OK
}

func curve(t Cut, sizes [][2]int64) [][2]int64 {
	if len(t.Parts) == 0 {
		size := sizes[t.Room]
		return least([][2]int64{size, {size[1], size[0]}})
	}
	var parts [][][2]int64
	for _, part := range t.Parts {
		parts = append(parts, curve(part, sizes))
	}
	if t.Across {
		return merge[stacked](parts...)
	}
	return merge[beside](parts...)
}

// beside is the size of parts that are side by side, stacked that of parts of which each is above the next.
type (
	beside  [2]int64
	stacked [2]int64
)

func (s beside) with(t beside) beside {
	return beside{s[0] + t[0], max(s[1], t[1])}
}

func (s stacked) with(t stacked) stacked {
	return stacked{max(s[0], t[0]), s[1] + t[1]}
}

// joint is a size to which another one of its kind can be joined.
type joint[S any] interface {
	~[2]int64
	with(S) S
}

// merge returns the curve of parts that are joined in the way of S. Sizes that are not least in a part are never needed.
func merge[S joint[S]](curves ...[][2]int64) [][2]int64 {
	out := curves[0]
	for _, curve := range curves[1:] {
		var next [][2]int64
		for _, s := range out {
			for _, t := range curve {
				next = append(next, [2]int64(S(s).with(S(t))))
			}
		}
		out = least(next)
	}
	return out
}

// least returns the sizes for which there is no other that is no greater in both, by width.
func least(list [][2]int64) [][2]int64 {
	slices.SortFunc(list, func(s, t [2]int64) int { return slices.Compare(s[:], t[:]) })
	out := list[:1]
	for _, size := range list[1:] {
		if size[1] < out[len(out)-1][1] {
			out = append(out, size)
		}
	}
	return out
}
