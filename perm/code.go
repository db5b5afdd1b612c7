package perm

import (
	"slices"

	"rabbet/api"
)

// maxRanked is how many elements a permutation may have for its rank to be an int64.
const maxRanked = 20

// Inversions returns how many inversions there are.
func Inversions(p []int) (int, api.Errno) {
	if e := Check(p); e != api.OK {
		return 0, e
	}
	count := 0
	for range inversions(p) {
		count++
	}
	return count, api.OK
}

// Code returns for each position the number of later positions with lesser values.
func Code(p []int) ([]int, api.Errno) {
	if e := Check(p); e != api.OK {
		return nil, e
	}
	return code(p), api.OK
}

func code(p []int) []int {
	lesser := make([]int, len(p))
	for v := range inversions(p) {
		lesser[v]++
	}
	out := make([]int, len(p))
	for i, v := range p {
		out[i] = lesser[v]
	}
	return out
}

// FromCode returns the permutation with a code.
func FromCode(c []int) ([]int, api.Errno) {
	if len(c) < 1 || len(c) > api.MaxPerm {
		return nil, api.ErrPerm
	}
	for i, x := range c {
		if x < 0 || x > len(c)-1-i {
			return nil, api.ErrArg
		}
	}
	return decode(c), api.OK
}

func decode(c []int) []int {
	left := rising(len(c))
	out := make([]int, len(c))
	for i, x := range c {
		out[i] = left[x]
		left = slices.Delete(left, x, x+1)
	}
	return out
}

// rising returns the numbers from 0 to n - 1.
func rising(n int) []int {
	out := make([]int, n)
	for i := range n {
		out[i] = i
	}
	return out
}

// Rank returns how many permutations of the same number of elements are less.
func Rank(p []int) (int64, api.Errno) {
	if e := Check(p); e != api.OK {
		return 0, e
	}
	if len(p) > maxRanked {
		return 0, api.ErrLong
	}
	rank := int64(0)
	for i, x := range code(p) {
		rank = rank*int64(len(p)-i) + int64(x)
	}
	return rank, api.OK
}

// Unrank returns the permutation of n elements with a rank.
func Unrank(n int, rank int64) ([]int, api.Errno) {
	if n < 1 || n > maxRanked || rank < 0 {
		return nil, api.ErrArg
	}
	c := make([]int, n)
	for i := n - 1; i >= 0; i-- {
		base := int64(n - i)
		c[i] = int(rank % base)
		rank /= base
	}
	if rank > 0 { // it was n! or more
		return nil, api.ErrArg
	}
	return decode(c), api.OK
}
