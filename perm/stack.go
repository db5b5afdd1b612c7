package perm

import "rabbet/api"

// sorter puts values on a stack, and takes them off as long as they come off rising from 0.
type sorter struct {
	rest, stack []int
	next        int
}

// put puts the next value on the stack; false if there is none.
func (s *sorter) put() bool {
	if len(s.rest) == 0 {
		return false
	}
	s.stack = append(s.stack, s.rest[0])
	s.rest = s.rest[1:]
	return true
}

// take takes the uppermost value off; false, and nothing happens, if it is not its turn.
func (s *sorter) take() bool {
	top := len(s.stack) - 1
	if top < 0 || s.stack[top] != s.next {
		return false
	}
	s.stack = s.stack[:top]
	s.next++
	return true
}

// Sort returns a run that sorts p.
func Sort(p []int) (string, bool, api.Errno) {
	if e := Check(p); e != api.OK {
		return "", false, e
	}
	s := sorter{rest: p}
	var run []byte
	for s.put() {
		run = append(run, 'i')
		for s.take() { // a value that waited on the stack would only be in the way of later ones
			run = append(run, 'o')
		}
	}
	if s.next < len(p) {
		return "", false, api.OK
	}
	return string(run), true, api.OK
}

// Sorts reports whether a run sorts p.
func Sorts(p []int, run string) bool {
	if Check(p) != api.OK {
		return false
	}
	s := sorter{rest: p}
	for _, letter := range []byte(run) {
		ok := letter == 'i' && s.put() || letter == 'o' && s.take()
		if !ok {
			return false
		}
	}
	return s.next == len(p)
}
