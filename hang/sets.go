package hang

import (
	"slices"

	"rabbet/api"
)

// maxSets is how many sets a list may have, maxNails how many nails there may be where all their sets are tried.
const (
	maxSets  = 100
	maxNails = 10
)

// Sets returns the falling sets of a word.
func Sets(w string) ([]string, api.Errno) {
	if e := Check(w); e != api.OK {
		return nil, e
	}
	all := nailsOf(w)
	if tooMany(all) {
		return nil, api.ErrLong
	}
	return names(all.leastSubsets(falling(w))), api.OK
}

func tooMany(all nails) bool {
	return len(all.name()) > maxNails
}

// Least returns the reduced list of sets.
func Least(sets []string) ([]string, api.Errno) {
	list, e := parseList(sets)
	if e != api.OK {
		return nil, e
	}
	return names(leastOf(list)), api.OK
}

// parseList returns the sets that a list of names is of.
func parseList(sets []string) ([]nails, api.Errno) {
	if len(sets) > maxSets {
		return nil, api.ErrLong
	}
	var out []nails
	for _, name := range sets {
		s, ok := parseNails(name)
		if !ok {
			return nil, api.ErrArg
		}
		out = append(out, s)
	}
	return out, api.OK
}

// parseSome returns the sets of a list that has some.
func parseSome(sets []string) ([]nails, api.Errno) {
	list, e := parseList(sets)
	if e == api.OK && len(list) == 0 {
		return nil, api.ErrNone
	}
	return list, e
}

// leastOf returns the sets of a list that contain no other one, each once.
func leastOf(list []nails) []nails {
	var out []nails
	for _, s := range list {
		above := func(t nails) bool { return s != t && s.contains(t) }
		if !slices.ContainsFunc(list, above) && !slices.Contains(out, s) {
			out = append(out, s)
		}
	}
	return out
}

// Dual returns the least sets that have a nail of each set.
func Dual(sets []string) ([]string, api.Errno) {
	list, e := parseSome(sets)
	if e != api.OK {
		return nil, e
	}
	if slices.Contains(list, nails{}) {
		return nil, api.ErrArg
	}
	if tooMany(union(list...)) {
		return nil, api.ErrLong
	}
	return names(dual(list)), api.OK
}

// dual returns no set if a set of the list is empty.
func dual(list []nails) []nails {
	return union(list...).leastSubsets(func(s nails) bool {
		for _, t := range list {
			if !s.meets(t) {
				return false
			}
		}
		return true
	})
}

// Hang returns a word that falls with each of the sets, and with no set that contains none of them.
//
// The word is made of a part for each set of the dual, one after the other; a part falls with each single nail of its set. Pulled nails that contain a given set have one of each set of the dual, so that all parts fall. If they contain none of the given sets, all nails of some set of the dual are still there. Were these the only ones, just that set's part would be left, as no other set of the dual is within it: the word would not fall, so that it does not fall with fewer nails pulled, either.
func Hang(sets []string) (string, api.Errno) {
	list, e := parseSome(sets)
	if e != api.OK {
		return "", e
	}
	if tooMany(union(list...)) {
		return "", api.ErrLong
	}
	var parts []wire
	for _, s := range dual(list) {
		parts = append(parts, tied(s.name()))
	}
	return string(joined(parts...)), api.OK
}

// tied returns a wire that falls with each single one of its nails. It has 4, 10, 16, 28, 40, 52, 64, 88, 112 letters for 2 to 10 nails, so that those of all sets of which none contains another one have at most 8400 in all (40 for each set of 6 of 10 nails).
func tied(letters string) wire {
	if len(letters) < 2 {
		return wire(letters)
	}
	half := len(letters) / 2
	return commutator(tied(letters[:half]), tied(letters[half:]))
}
