package share

import (
	"novaculite/api"
	"novaculite/drain"
)

// Valid checks a split.
func Valid(h drain.Hill, split []int) api.Errno {
	least, e := drain.Least(h)
	if e != api.OK {
		return e
	}
	if len(split) != h.Galleries {
		return api.ErrShape
	}
	for _, pays := range split {
		if pays < 0 || pays > MaxShare {
			return api.ErrRange
		}
	}
	if paid(split, allOf(h)) != least {
		return api.ErrSum
	}
	return api.OK
}

// Over returns what a group is over.
func Over(h drain.Hill, split, group []int) (int, api.Errno) {
	if e := Valid(h, split); e != api.OK {
		return 0, e
	}
	cost, e := Alone(h, group)
	if e != api.OK {
		return 0, e
	}
	return paid(split, groupOf(group)) - cost, api.OK
}

// Steady reports whether a split is steady.
func Steady(h drain.Hill, split []int) (bool, api.Errno) {
	if e := Valid(h, split); e != api.OK {
		return false, e
	}
	_, over := mostOver(h, split)
	return over <= 0, api.OK
}

// Why returns a group that is over by the most.
func Why(h drain.Hill, split []int) ([]int, api.Errno) {
	if e := Valid(h, split); e != api.OK {
		return nil, e
	}
	most, over := mostOver(h, split)
	if over <= 0 {
		return nil, api.ErrClash
	}
	return most.list(), api.OK
}

// Proves checks that a group is over.
func Proves(h drain.Hill, split, group []int) api.Errno {
	over, e := Over(h, split, group)
	if e != api.OK {
		return e
	}
	if over <= 0 {
		return api.ErrProof
	}
	return api.OK
}

// paid returns what the galleries of a group pay together.
func paid(split []int, g group) int {
	sum := 0
	for gallery, pays := range split {
		if g.has(gallery) {
			sum += pays
		}
	}
	return sum
}

// mostOver returns the first group that is over by the most, and by how much. It
// is never below 0, since all galleries together pay just what they cost.
func mostOver(h drain.Hill, split []int) (most group, over int) {
	c := costsOf(h)
	most = allOf(h)
	for _, g := range c.drained() {
		if by := paid(split, g) - c.of(g); by > over {
			most, over = g, by
		}
	}
	return most, over
}
