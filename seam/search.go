package seam

import "slices"

// shortest returns, of the shortest ascending lists of indices with which a
// test of the elements that they choose, and of the others, is passed, the
// first one, or nil if there is none.
func shortest[E any](list []E, passes func(chosen, others []E) bool) []int {
	for length := range len(list) + 1 {
		indices := make([]int, length)
		for i := range indices {
			indices[i] = i
		}
		for more := true; more; more = follow(indices, len(list)) {
			if passes(split(list, indices)) {
				return indices
			}
		}
	}
	return nil
}

// follow turns an ascending list of indices below limit into the next one of
// the same length, and reports whether there is one.
func follow(indices []int, limit int) bool {
	for i, index := range slices.Backward(indices) {
		if index < limit-len(indices)+i {
			for j := i; j < len(indices); j++ {
				indices[j] = index + 1 + j - i
			}
			return true
		}
	}
	return false
}

// split divides a list into the elements at some indices and the others.
func split[E any](list []E, indices []int) (chosen, others []E) {
	for i, element := range list {
		if slices.Contains(indices, i) {
			chosen = append(chosen, element)
		} else {
			others = append(others, element)
		}
	}
	return chosen, others
}
