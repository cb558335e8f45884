package rub

import "novaculite/api"

// Becomes reports whether a row can become another one.
func Becomes(a, b []int) (bool, api.Errno) {
	if e := checkTwo(a, b); e != api.OK {
		return false, e
	}
	return majorizes(a, b), api.OK
}

// Why returns a place that proves that it cannot.
func Why(a, b []int) (int, api.Errno) {
	if e := checkTwo(a, b); e != api.OK {
		return 0, e
	}
	k, found := fallsShort(a, b)
	if !found {
		return 0, api.ErrClash
	}
	return k, api.OK
}

// Proves checks such a place.
func Proves(a, b []int, k int) api.Errno {
	if e := checkTwo(a, b); e != api.OK {
		return e
	}
	if !isFrom(k, 0, len(a)) {
		return api.ErrNone
	}
	if sumOf(a[:k]) >= sumOf(b[:k]) {
		return api.ErrProof
	}
	return api.OK
}

// Fewest returns the smallest number of rubbings.
func Fewest(a, b []int) (int, api.Errno) {
	if e := checkBecoming(a, b); e != api.OK {
		return 0, e
	}
	return fewest(a, b), api.OK
}

// First returns the first rubbing of the fewest.
func First(a, b []int) (i, j int, e api.Errno) {
	if e := checkBecoming(a, b); e != api.OK {
		return 0, 0, e
	}
	enough := fewest(a, b) - 1
	for _, r := range rubbings(len(a), whetstones(a).rub) {
		if majorizes(r.row, b) && fewest(r.row, b) == enough {
			return r.i, r.j, api.OK
		}
	}
	// only b itself has no such rubbing
	return 0, 0, api.ErrClash
}

// Meet returns the greatest row that two rows can become.
func Meet(a, b []int) ([]int, api.Errno) {
	if e := checkTwo(a, b); e != api.OK {
		return nil, e
	}
	return meet(a, b), api.OK
}

// Join returns the smallest row that can become two rows.
func Join(a, b []int) ([]int, api.Errno) {
	if e := checkTwo(a, b); e != api.OK {
		return nil, e
	}
	// turning swaps which of two rows can become the other one
	turned := meet(turn(a, MaxThick), turn(b, MaxThick))
	return turn(turned, len(a)), api.OK
}

// checkTwo returns the error of two rows.
func checkTwo(a, b []int) api.Errno {
	if e := Check(a); e != api.OK {
		return e
	}
	if e := Check(b); e != api.OK {
		return e
	}
	if len(a) != len(b) {
		return api.ErrShape
	}
	if sumOf(a) != sumOf(b) {
		return api.ErrSum
	}
	return api.OK
}

// checkBecoming returns the error of a row and one that it is to become.
func checkBecoming(a, b []int) api.Errno {
	if e := checkTwo(a, b); e != api.OK {
		return e
	}
	if !majorizes(a, b) {
		return api.ErrLost
	}
	return api.OK
}

func majorizes(a, b []int) bool {
	_, found := fallsShort(a, b)
	return !found
}

// fallsShort returns the smallest place at which the rise of a is smaller than
// that of b, if there is one.
func fallsShort(a, b []int) (k int, found bool) {
	ahead := 0
	for i := range a {
		ahead += a[i] - b[i]
		if ahead < 0 {
			return i + 1, true
		}
	}
	return 0, false
}

// fewest returns the number of rubbings that a row needs to become another one:
// each takes one unit from where there are too many.
func fewest(a, b []int) int {
	number := 0
	for i := range a {
		number += max(a[i]-b[i], 0)
	}
	return number
}

func meet(a, b []int) []int {
	rises, others := risesOf(a), risesOf(b)
	for k := range rises {
		rises[k] = min(rises[k], others[k])
	}
	return rowOf(rises)
}
