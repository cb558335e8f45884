package suit

import (
	"slices"

	"novaculite/api"
)

// Valid checks a division.
func Valid(b Book, division []int) api.Errno {
	if e := Check(b); e != api.OK {
		return e
	}
	if len(division) != len(b.Lists) {
		return api.ErrShape
	}
	for smith, stone := range division {
		if e := checkGift(b, division[:smith], stone); e != api.OK {
			return e
		}
	}
	return api.OK
}

// Places returns the place of what each smith gets.
func Places(b Book, division []int) ([]int, api.Errno) {
	if e := Valid(b, division); e != api.OK {
		return nil, e
	}
	return places(b, division), api.OK
}

// checkGift returns the error of what the next smith gets, behind what the
// earlier ones get.
func checkGift(b Book, earlier []int, stone int) api.Errno {
	switch {
	case stone == nothing:
		return api.OK
	case !isBelow(stone, b.Stones):
		return api.ErrNone
	case !slices.Contains(b.Lists[len(earlier)], stone):
		return api.ErrLost
	case slices.Contains(earlier, stone):
		return api.ErrTwice
	}
	return api.OK
}

func places(b Book, division []int) []int {
	all := make([]int, len(division))
	for smith, stone := range division {
		list := b.Lists[smith]
		all[smith] = len(list)
		if stone != nothing {
			all[smith] = slices.Index(list, stone)
		}
	}
	return all
}

// search looks for divisions: it keeps the stones of each smith's list in
// ascending order, which stones are free, and what it found.
type search struct {
	lists [][]int
	free  map[int]bool
	found [][]int
}

// divisions returns all divisions of a book, the first ones first.
func divisions(b Book) [][]int {
	s := search{free: map[int]bool{}}
	for stone := range b.Stones {
		s.free[stone] = true
	}
	for _, list := range b.Lists {
		s.lists = append(s.lists, slices.Sorted(slices.Values(list)))
	}
	s.findAll(nil)
	return s.found
}

// findAll finds all divisions with a beginning, the first ones first, that give
// no stones but free ones to the other smiths.
func (s *search) findAll(begun []int) {
	smith := len(begun)
	if smith == len(s.lists) {
		s.found = append(s.found, begun)
		return
	}
	s.findAll(with(begun, nothing))
	for _, stone := range s.lists[smith] {
		if s.free[stone] {
			delete(s.free, stone)
			s.findAll(with(begun, stone))
			s.free[stone] = true
		}
	}
}
