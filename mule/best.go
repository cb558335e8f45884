package mule

import (
	"slices"

	"novaculite/api"
)

// Least returns the cost of a best order.
func Least(c Caravan) (int, api.Errno) {
	if e := Check(c); e != api.OK {
		return 0, e
	}
	return least(c), api.OK
}

// Rule returns the order of the rule.
func Rule(c Caravan) ([]int, api.Errno) {
	if e := Check(c); e != api.OK {
		return nil, e
	}
	return rule(c), api.OK
}

// Best returns the first best order.
func Best(c Caravan) ([]int, api.Errno) {
	if e := Check(c); e != api.OK {
		return nil, e
	}
	return bests(c)[0], api.OK
}

// Bests returns how many best orders there are.
func Bests(c Caravan) (int, api.Errno) {
	if e := Check(c); e != api.OK {
		return 0, e
	}
	return len(bests(c)), api.OK
}

func worstCost(c Caravan, order []int) int { return slices.Max(costs(c, order, worst(c))) }

// least needs one order only, because the order of the rule is best (P11.9).
func least(c Caravan) int { return worstCost(c, rule(c)) }

func rule(c Caravan) []int {
	order := make([]int, len(c.Loads))
	rest := allOf(c)
	for i := range order {
		load, _ := cheapest(c, rest)
		order[len(order)-1-i] = load
		rest = rest.without(load)
	}
	return order
}

// bests returns all best orders, in ascending order (R6).
func bests(c Caravan) [][]int {
	cost := least(c)
	return slices.DeleteFunc(orders(c), func(order []int) bool { return worstCost(c, order) > cost })
}

// cheapest returns the load that costs least behind all others of a group, the one
// with the greatest number of several, and its cost: the bound of the group.
func cheapest(c Caravan, g group) (load, cost int) {
	days := worst(c)
	day := 0
	for _, i := range g.list() {
		day += days[i]
	}
	cost = MaxBase + MaxRate*MaxDay // no load costs more on any day
	for _, end := range linksOf(c).ends(g).list() {
		if n := c.Loads[end].cost(day); n <= cost {
			load, cost = end, n
		}
	}
	return load, cost
}
