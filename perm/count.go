package perm

import "rabbet/api"

// maxCounted is up to how many elements permutations are counted.
const maxCounted = 20

// Baxters returns how many permutations of n elements are Baxter permutations.
func Baxters(n int) (int64, api.Errno) {
	if n < 1 || n > maxCounted {
		return 0, api.ErrArg
	}
	row := binomials(n + 1)
	sum := int64(0)
	for k := 1; k <= n; k++ { // Chung, Graham, Hoggatt and Kleitman
		sum += row[k-1] * row[k] * row[k+1]
	}
	return sum / (row[1] * row[2]), api.OK
}

// binomials returns how many subsets of each size n things have.
func binomials(n int) []int64 {
	row := make([]int64, n+1)
	row[0] = 1
	for range n {
		for k := n; k > 0; k-- {
			row[k] += row[k-1]
		}
	}
	return row
}

// Separables returns how many permutations of n elements have a block tree without a node of the Kind Simple.
func Separables(n int) (int64, api.Errno) {
	if n < 1 || n > maxCounted {
		return 0, api.ErrArg
	}
	counts := []int64{1} // the great Schroeder numbers: counts[i] is that of i + 1 elements
	for i := 1; i < n; i++ {
		next := counts[i-1]
		for k := range i {
			next += counts[k] * counts[i-1-k]
		}
		counts = append(counts, next)
	}
	return counts[n-1], api.OK
}
