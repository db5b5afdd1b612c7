package hang

import (
	"bytes"
	"slices"

	"rabbet/api"
)

// Root returns the root of a word, and the power of it that the word is.
func Root(w string) (string, int, api.Errno) {
	if e := Check(w); e != api.OK {
		return "", 0, e
	}
	r, n := reduced(w).root()
	if n == 0 {
		return "", 0, api.ErrNone
	}
	return string(r), n, api.OK
}

// root returns the root and the power of a reduced wire; of the empty one, the empty one and 0.
func (w wire) root() (wire, int) {
	handle, loop := w.split()
	if len(loop) == 0 {
		return nil, 0
	}
	period, _ := loop.rotation(loop, 1)
	return joined(handle, loop[:period], handle.inverse()), len(loop) / period
}

// rotation returns the least number of letters, from a first one on, that a loop must begin later to be the other one.
func (w wire) rotation(other wire, first int) (int, bool) {
	if len(w) != len(other) {
		return 0, false
	}
	at := bytes.Index(slices.Concat(w, w)[first:], other)
	if at < 0 {
		return 0, false
	}
	return first + at, true
}

// Commute reports whether two words commute, and returns the root and the powers of it that they are.
func Commute(u, v string) (string, int, int, bool, api.Errno) {
	if e := checkAll(u, v); e != api.OK {
		return "", 0, 0, false, e
	}
	r, m := reduced(u).root()
	s, n := reduced(v).root()
	switch {
	case m == 0:
		return string(s), 0, n, true, api.OK
	case n == 0 || slices.Equal(r, s):
		return string(r), m, n, true, api.OK
	case slices.Equal(r, s.inverse()):
		return string(r), m, -n, true, api.OK
	}
	return "", 0, 0, false, api.OK
}

// Turned returns a word by which u is turned into v.
func Turned(u, v string) (string, bool, api.Errno) {
	if e := checkAll(u, v); e != api.OK {
		return "", false, e
	}
	from, loop := reduced(u).split()
	to, other := reduced(v).split()
	at, ok := loop.rotation(other, 0)
	if !ok {
		return "", false, api.OK
	}
	return string(joined(to, loop[:at].inverse(), from.inverse())), true, api.OK
}
