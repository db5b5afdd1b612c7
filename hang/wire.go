package hang

// caseBit is that in which a letter differs from its inverse.
const caseBit = 'a' ^ 'A'

// wire is the letters along a wire.
type wire []byte

// then returns a reduced wire that goes on with one more letter.
func (w wire) then(letter byte) wire {
	last := len(w) - 1
	if last >= 0 && w[last] == letter^caseBit {
		return w[:last]
	}
	return append(w, letter)
}

// left returns what is left, in its reduced form, of a word without its letters for some nails.
func left(w string, pulled nails) wire {
	out := make(wire, 0, len(w))
	for _, letter := range w {
		if !pulled.has[nailOf(letter)] {
			out = out.then(byte(letter))
		}
	}
	return out
}

// reduced returns the reduced form of a word.
func reduced(w string) wire {
	return left(w, nails{})
}

// falling returns how to ask with which nails a word falls.
func falling(w string) func(nails) bool {
	form := string(reduced(w)) // which is often shorter, and may be asked about a thousand times
	return func(pulled nails) bool {
		return len(left(form, pulled)) == 0
	}
}

// joined returns the reduced form of wires, one after the other.
func joined(parts ...wire) wire {
	var out wire
	for _, part := range parts {
		for _, letter := range part {
			out = out.then(letter)
		}
	}
	return out
}

// inverse returns the same way back.
func (w wire) inverse() wire {
	out := make(wire, len(w))
	for i, letter := range w {
		out[len(w)-1-i] = letter ^ caseBit
	}
	return out
}

// commutator returns a wire that falls if one of the two does, or if they commute.
func commutator(u, v wire) wire {
	return joined(u, v, u.inverse(), v.inverse())
}

// split returns the parts of a reduced wire that is a handle, a loop and the inverse of the handle, the loop being as short as can be. Neither part has room to grow into what follows it.
func (w wire) split() (handle, loop wire) {
	k, end := 0, len(w)
	for k < end-1 && w[k] == w[end-1]^caseBit {
		k++
		end--
	}
	return w[:k:k], w[k:end:end]
}
