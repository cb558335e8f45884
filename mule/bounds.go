package mule

import (
	"cmp"
	"slices"

	"novaculite/api"
)

// Bound returns the bound of some loads.
func Bound(c Caravan, loads []int) (int, api.Errno) {
	if e := Check(c); e != api.OK {
		return 0, e
	}
	if len(loads) == 0 {
		return 0, api.ErrEmpty
	}
	before := -1
	for _, load := range loads {
		if !hasLoad(c, load) {
			return 0, api.ErrNone
		}
		if load <= before {
			return 0, api.ErrOrder
		}
		before = load
	}
	_, bound := cheapest(c, groupOf(loads))
	return bound, api.OK
}

// Why returns loads whose bound is the cost of a best order.
func Why(c Caravan) ([]int, api.Errno) {
	if e := Check(c); e != api.OK {
		return nil, e
	}
	cost := least(c)
	var lists [][]int
	for g := group(1); g <= allOf(c); g++ {
		if _, bound := cheapest(c, g); bound == cost {
			lists = append(lists, g.list())
		}
	}
	return slices.MinFunc(lists, shorterOrBefore), api.OK // there is one by P11.9
}

// Proves checks that no order costs less.
func Proves(c Caravan, cost int, loads []int) api.Errno {
	bound, e := Bound(c, loads)
	if e != api.OK {
		return e
	}
	if bound < cost {
		return api.ErrProof
	}
	return api.OK
}

func shorterOrBefore(list, other []int) int {
	return cmp.Or(cmp.Compare(len(list), len(other)), slices.Compare(list, other))
}
