package suit

import (
	"cmp"
	"slices"

	"novaculite/api"
)

// Majority returns the majority of a division over another one.
func Majority(b Book, division, other []int) (int, api.Errno) {
	if e := Valid(b, division); e != api.OK {
		return 0, e
	}
	if e := Valid(b, other); e != api.OK {
		return 0, e
	}
	return majority(places(b, division), places(b, other)), api.OK
}

// Margin returns the greatest majority over a division.
func Margin(b Book, division []int) (int, api.Errno) {
	if e := Valid(b, division); e != api.OK {
		return 0, e
	}
	_, margin := winner(b, division)
	return margin, api.OK
}

// Winner returns a division with the greatest majority over one.
func Winner(b Book, division []int) ([]int, api.Errno) {
	if e := Valid(b, division); e != api.OK {
		return nil, e
	}
	first, margin := winner(b, division)
	if margin == 0 {
		return nil, api.ErrClash
	}
	return first, api.OK
}

// Least returns the smallest margin of a division.
func Least(b Book) (int, api.Errno) {
	if e := Check(b); e != api.OK {
		return 0, e
	}
	var all [][]int
	for _, division := range divisions(b) {
		all = append(all, places(b, division))
	}
	least := len(b.Lists)
	// it goes down to each margin that is smaller; to compare it with a division is
	// quicker than to find the margin of each one
	for _, division := range all {
		for least > 0 && !losesBy(division, all, least) {
			least--
		}
	}
	return least, api.OK
}

// Sound reports whether a division is sound.
func Sound(b Book, division []int) (bool, api.Errno) {
	if e := Valid(b, division); e != api.OK {
		return false, e
	}
	_, found := better(b, division)
	return !found, api.OK
}

// Better returns a division that some prefer, and nobody likes less.
func Better(b Book, division []int) ([]int, api.Errno) {
	if e := Valid(b, division); e != api.OK {
		return nil, e
	}
	first, found := better(b, division)
	if !found {
		return nil, api.ErrClash
	}
	return first, api.OK
}

// majority returns the majority of a division over another one. It gets the
// places of both.
func majority(division, other []int) int {
	sum := 0
	for smith, place := range division {
		sum += cmp.Compare(other[smith], place)
	}
	return sum
}

// winner returns the margin of a division, and the first division with this
// majority over it, if one beats it.
func winner(b Book, division []int) (first []int, margin int) {
	beaten := places(b, division)
	for _, other := range divisions(b) {
		if by := majority(places(b, other), beaten); by > margin {
			first, margin = other, by
		}
	}
	return first, margin
}

// losesBy reports whether some division has a majority over one that is at least
// a number. It gets the places of all divisions.
func losesBy(division []int, all [][]int, by int) bool {
	return slices.ContainsFunc(all, func(other []int) bool {
		return majority(other, division) >= by
	})
}

// better returns the first division that some smith prefers to one, and to which
// no smith prefers it.
func better(b Book, division []int) (first []int, found bool) {
	than := places(b, division)
	for _, other := range divisions(b) {
		if isBetter(places(b, other), than) {
			return other, true
		}
	}
	return nil, false
}

// isBetter reports whether some smith prefers a division to another one, and no
// smith prefers the other one. It gets the places of both.
func isBetter(division, than []int) bool {
	for smith, place := range division {
		if place > than[smith] {
			return false
		}
	}
	return !slices.Equal(division, than)
}
