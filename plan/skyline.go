package plan

import (
	"rabbet/api"
	"rabbet/perm"
)

// skyline is the upper edge of the rooms that were put in, in each column: a row, or the number of rows where there is none. (Columns beyond the square stay at 0.)
type skyline struct {
	top [api.MaxPerm]int
}

// ground is the skyline of a square without rooms.
func ground(n int) skyline {
	var s skyline
	for column := range n {
		s.top[column] = n
	}
	return s
}

// with returns the skyline after one more room.
func (s skyline) with(room [4]int) skyline {
	for column := room[0]; column < room[2]; column++ {
		s.top[column] = room[1]
	}
	return s
}

// carries reports whether all below a room is there, and the room is not.
func (s skyline) carries(room [4]int) bool {
	for _, top := range s.top[room[0]:room[2]] {
		if top != room[3] {
			return false
		}
	}
	return true
}

// takes reports whether a room can be put in next: all that touch its left or its lower side are there, and it is not.
func (s skyline) takes(room [4]int) bool {
	return s.carries(room) && (room[0] == 0 || s.top[room[0]-1] <= room[1])
}

// FromPerm returns the plan of a permutation.
func FromPerm(p []int) (Plan, api.Errno) {
	if perm.Check(p) != api.OK {
		return nil, api.ErrPerm
	}
	x := make(Plan, len(p))
	s := ground(len(p))
	for _, k := range p {
		x[k] = s.room(k, len(p))
		s = s.with(x[k])
	}
	return x, api.OK
}

// room returns the room of the number k as it is put in next. The skyline falls to the right, all the way: a line to the left meets the first column that is high enough, one to the right leaves at the first that is not.
func (s skyline) room(k, n int) [4]int {
	left, top := s.upperLeft(k)
	right, bottom := s.lowerRight(k, n)
	return [4]int{left, top, right, bottom}
}

// upperLeft goes from the upper left corner of the room's own cell to the left, or, if that is on a side, upward.
func (s skyline) upperLeft(k int) (left, top int) {
	left = k
	for left > 0 && s.top[left-1] > k {
		left--
	}
	if left < k {
		return left, k
	}
	if k == 0 {
		return 0, 0
	}
	return k, s.top[k-1]
}

// lowerRight goes from the lower right corner of the room's own cell downward, or, if that is on a side, to the right.
func (s skyline) lowerRight(k, n int) (right, bottom int) {
	right = k + 1
	if s.top[k] > k+1 {
		return right, s.top[k]
	}
	for right < n && s.top[right] <= k+1 {
		right++
	}
	return right, k + 1
}
