package mule

import (
	"slices"

	"novaculite/api"
)

// Valid returns the error of an order.
func Valid(c Caravan, order []int) api.Errno {
	if e := Check(c); e != api.OK {
		return e
	}
	if len(order) != len(c.Loads) {
		return api.ErrShape
	}
	l := linksOf(c)
	rest := allOf(c)
	for _, load := range order {
		switch {
		case !hasLoad(c, load):
			return api.ErrNone
		case !rest.has(load):
			return api.ErrTwice
		case !l.starts(rest).has(load):
			return api.ErrOpen
		}
		rest = rest.without(load)
	}
	return api.OK
}

// First returns the first order.
func First(c Caravan) ([]int, api.Errno) {
	if e := Check(c); e != api.OK {
		return nil, e
	}
	return orders(c)[0], api.OK
}

// Count returns how many orders there are.
func Count(c Caravan) (int, api.Errno) {
	if e := Check(c); e != api.OK {
		return 0, e
	}
	return len(orders(c)), api.OK
}

// orders returns all orders, in ascending order (R6).
func orders(c Caravan) [][]int { return linksOf(c).extend(nil, nil, allOf(c)) }

// extend appends all orders that begin with some loads, of which the others are the rest.
func (l links) extend(orders [][]int, begun []int, rest group) [][]int {
	if rest == 0 {
		return append(orders, slices.Clone(begun))
	}
	for _, load := range l.starts(rest).list() {
		orders = l.extend(orders, append(begun, load), rest.without(load))
	}
	return orders
}
