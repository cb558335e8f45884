package suit

import (
	"cmp"
	"slices"

	"novaculite/api"
)

// Firsts returns all first wishes.
func Firsts(b Book) ([]int, api.Errno) {
	if e := Check(b); e != api.OK {
		return nil, e
	}
	return firsts(b), api.OK
}

// Wishes returns the first and the second wish of each smith.
func Wishes(b Book) ([][2]int, api.Errno) {
	if e := Check(b); e != api.OK {
		return nil, e
	}
	return wishes(b), api.OK
}

// Popular reports whether a division is popular.
func Popular(b Book, division []int) (bool, api.Errno) {
	if e := Valid(b, division); e != api.OK {
		return false, e
	}
	return isPopular(division, firsts(b), wishes(b)), api.OK
}

// First returns the first popular division.
func First(b Book) ([]int, api.Errno) {
	all, e := somePopular(b)
	if e != api.OK {
		return nil, e
	}
	return all[0], api.OK
}

// Largest returns the first of the largest popular divisions.
func Largest(b Book) ([]int, api.Errno) {
	all, e := somePopular(b)
	if e != api.OK {
		return nil, e
	}
	largest := all[0]
	for _, division := range all {
		if served(division) > served(largest) {
			largest = division
		}
	}
	return largest, api.OK
}

// Count returns the number of popular divisions.
func Count(b Book) (int, api.Errno) {
	if e := Check(b); e != api.OK {
		return 0, e
	}
	return len(popular(b)), api.OK
}

// Why returns a short group.
func Why(b Book) ([]int, api.Errno) {
	if e := Check(b); e != api.OK {
		return nil, e
	}
	both := wishes(b)
	// by P8.10 there is a popular division just if there is no short group
	for _, group := range groups(len(b.Lists)) {
		if isShort(group, both) {
			return group, api.OK
		}
	}
	return nil, api.ErrClash
}

// Proves checks a short group.
func Proves(b Book, smiths []int) api.Errno {
	if e := Check(b); e != api.OK {
		return e
	}
	if len(smiths) == 0 {
		return api.ErrEmpty
	}
	for i, smith := range smiths {
		if !isBelow(smith, len(b.Lists)) {
			return api.ErrNone
		}
		if i > 0 && smith <= smiths[i-1] {
			return api.ErrOrder
		}
	}
	if !isShort(smiths, wishes(b)) {
		return api.ErrProof
	}
	return api.OK
}

func firsts(b Book) []int {
	var all []int
	for _, list := range b.Lists {
		all = append(all, list[0])
	}
	slices.Sort(all)
	return slices.Compact(all)
}

func wishes(b Book) [][2]int {
	taken := firsts(b)
	var all [][2]int
	for _, list := range b.Lists {
		all = append(all, [2]int{list[0], second(list, taken)})
	}
	return all
}

// second returns the second wish of a smith with a list; taken are all first
// wishes.
func second(list, taken []int) int {
	for _, stone := range list {
		if !slices.Contains(taken, stone) {
			return stone
		}
	}
	return nothing
}

// popular returns all popular divisions, the first ones first.
func popular(b Book) [][]int {
	first, both := firsts(b), wishes(b)
	return slices.DeleteFunc(divisions(b), func(division []int) bool {
		return !isPopular(division, first, both)
	})
}

// somePopular returns all popular divisions of a book that has some.
func somePopular(b Book) ([][]int, api.Errno) {
	if e := Check(b); e != api.OK {
		return nil, e
	}
	all := popular(b)
	if len(all) == 0 {
		return nil, api.ErrLost
	}
	return all, api.OK
}

// isPopular takes from P8.9 which divisions are popular. It gets the first
// wishes, and both wishes of each smith. If each smith gets one of the two, a
// first wish can only be given to a smith whose first wish it is, since it is
// nobody's second wish.
func isPopular(division, first []int, both [][2]int) bool {
	for smith, stone := range division {
		if !slices.Contains(both[smith][:], stone) {
			return false
		}
	}
	for _, stone := range first {
		if !slices.Contains(division, stone) {
			return false
		}
	}
	return true
}

// served returns how many smiths get a stone.
func served(division []int) int {
	many := 0
	for _, stone := range division {
		if stone != nothing {
			many++
		}
	}
	return many
}

// groups returns all lists of smiths in ascending order: the shortest ones
// first, and of these the first ones first.
func groups(smiths int) [][]int {
	all := [][]int{nil}
	for smith := range smiths {
		for _, group := range all {
			all = append(all, with(group, smith))
		}
	}
	slices.SortFunc(all, func(a, b []int) int {
		return cmp.Or(cmp.Compare(len(a), len(b)), slices.Compare(a, b))
	})
	return all
}

// isShort reports whether a group is a short one. It gets both wishes of each
// smith.
func isShort(group []int, both [][2]int) bool {
	var stones []int
	for _, smith := range group {
		wish := both[smith]
		if wish[1] == nothing {
			return false
		}
		stones = append(stones, wish[0], wish[1])
	}
	slices.Sort(stones)
	return len(slices.Compact(stones)) < len(group)
}
