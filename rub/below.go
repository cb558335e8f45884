package rub

import (
	"slices"

	"novaculite/api"
)

// Below returns all rows that a row can become.
func Below(row []int) ([][]int, api.Errno) {
	if e := Check(row); e != api.OK {
		return nil, e
	}
	return below(row), api.OK
}

// Steps returns the rows to which a step leads.
func Steps(row []int) ([][]int, api.Errno) {
	if e := Check(row); e != api.OK {
		return nil, e
	}
	var steps [][]int
	for _, r := range below(row)[1:] {
		if !anyMajorizes(steps, r) { // a row between is a step, or below one, and comes before r
			steps = append(steps, r)
		}
	}
	return steps, api.OK
}

// Longest returns the greatest number of steps.
func Longest(a, b []int) (int, api.Errno) {
	if e := checkBecoming(a, b); e != api.OK {
		return 0, e
	}
	between := slices.DeleteFunc(below(a), func(r []int) bool { return !majorizes(r, b) })
	longest := make([]int, len(between)) // from a to each of them
	for i, r := range between {
		for h, s := range between[:i] {
			if majorizes(s, r) { // one step or more lead from s to r
				longest[i] = max(longest[i], longest[h]+1)
			}
		}
	}
	return longest[len(longest)-1], api.OK
}

// Count returns how many rows there are.
func Count(stones, sum int) (int, api.Errno) {
	if !isFrom(stones, 1, MaxStones) || !isFrom(sum, 0, stones*MaxThick) {
		return 0, api.ErrRange
	}
	return len(rowsOf(stones, sum, MaxThick)), api.OK
}

// below returns all rows that a row can become, in descending order: it is the
// first one of them.
func below(row []int) [][]int {
	all := rowsOf(len(row), sumOf(row), row[0])
	return slices.DeleteFunc(all, func(r []int) bool { return !majorizes(row, r) })
}

// rowsOf returns all rows of a number of stones with a sum, up to so thick, in
// descending order. The sum is not greater than that of the thickest stones.
func rowsOf(number, sum, thick int) [][]int {
	if number == 0 {
		return [][]int{nil}
	}
	var rows [][]int
	for first := min(thick, sum); first*number >= sum; first-- {
		for _, rest := range rowsOf(number-1, sum-first, first) {
			rows = append(rows, append([]int{first}, rest...))
		}
	}
	return rows
}

func anyMajorizes(rows [][]int, row []int) bool {
	return slices.ContainsFunc(rows, func(r []int) bool { return majorizes(r, row) })
}
