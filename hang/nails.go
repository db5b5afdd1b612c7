package hang

import (
	"iter"
	"slices"
)

// nails is a set of nails.
type nails struct {
	has [26]bool
}

func isNail(letter rune) bool {
	return 'a' <= letter && letter <= 'z'
}

// nailOf returns the number of the nail that a letter of a word goes around.
func nailOf(letter rune) int {
	return int(letter|caseBit) - 'a'
}

// parseNails returns the set that a string of different small letters, rising, names.
func parseNails(name string) (nails, bool) {
	var s nails
	last := rune(0)
	for _, letter := range name {
		if !isNail(letter) || letter <= last {
			return nails{}, false
		}
		s.has[nailOf(letter)] = true
		last = letter
	}
	return s, true
}

// name returns the letters of the set.
func (s nails) name() string {
	var out []byte
	for i, ok := range s.has {
		if ok {
			out = append(out, byte('a'+i))
		}
	}
	return string(out)
}

// names returns the names of sets in the order of strings.
func names(sets []nails) []string {
	var out []string
	for _, s := range sets {
		out = append(out, s.name())
	}
	slices.Sort(out)
	return out
}

// nailsOf returns the nails of a word.
func nailsOf(w string) nails {
	var s nails
	for _, letter := range w {
		s.has[nailOf(letter)] = true
	}
	return s
}

// union returns the nails that are in any of the sets.
func union(sets ...nails) nails {
	var out nails
	for _, s := range sets {
		for i, ok := range s.has {
			out.has[i] = out.has[i] || ok
		}
	}
	return out
}

func (s nails) contains(t nails) bool {
	return union(s, t) == s
}

// meets reports whether a nail is in both sets.
func (s nails) meets(t nails) bool {
	for i, ok := range s.has {
		if ok && t.has[i] {
			return true
		}
	}
	return false
}

// subsets yields the sets of some of the nails, each one after all that it contains.
func (s nails) subsets() iter.Seq[nails] {
	return func(yield func(nails) bool) {
		for part := (nails{}); yield(part); {
			part = s.next(part)
			if part == (nails{}) {
				return
			}
		}
	}
}

// next counts on, from one subset to the next one, with the nails as digits.
func (s nails) next(part nails) nails {
	for i, ok := range s.has {
		if !ok {
			continue
		}
		part.has[i] = !part.has[i]
		if part.has[i] {
			break
		}
	}
	return part
}

// leastSubsets returns the least subsets for which something holds that goes on to hold with more nails.
func (s nails) leastSubsets(holds func(nails) bool) []nails {
	var out []nails
	for part := range s.subsets() {
		if !slices.ContainsFunc(out, part.contains) && holds(part) {
			out = append(out, part)
		}
	}
	return out
}
