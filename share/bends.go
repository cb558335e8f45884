package share

import (
	"novaculite/api"
	"novaculite/drain"
)

// Smooth reports whether a hill is smooth.
func Smooth(h drain.Hill) (bool, api.Errno) {
	if _, e := drain.Least(h); e != api.OK {
		return false, e
	}
	_, _, found := firstBend(h)
	return !found, api.OK
}

// Bend returns the two groups of a bend.
func Bend(h drain.Hill) (one, two []int, e api.Errno) {
	if _, e := drain.Least(h); e != api.OK {
		return nil, nil, e
	}
	first, second, found := firstBend(h)
	if !found {
		return nil, nil, api.ErrClash
	}
	return first.list(), second.list(), api.OK
}

// firstBend returns the first bend, and whether there is one.
func firstBend(h drain.Hill) (one, two group, found bool) {
	c := costsOf(h)
	groups := c.drained()
	for _, one := range groups {
		for _, two := range groups {
			if c.bends(one, two) {
				return one, two, true
			}
		}
	}
	return 0, 0, false
}

// bends reports whether two groups that can drain alone are a bend.
func (c costs) bends(one, two group) bool {
	both := c.of(partOf(one & two))
	return both == lost || c.of(one|two)+both > c.of(one)+c.of(two)
}
