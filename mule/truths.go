package mule

import (
	"slices"

	"novaculite/api"
)

// Arrivals returns the days on which loads arrive.
func Arrivals(c Caravan, order, days []int) ([]int, api.Errno) {
	if e := checkTruth(c, order, days); e != api.OK {
		return nil, e
	}
	return arrivals(order, days), api.OK
}

// Costs returns the costs of loads.
func Costs(c Caravan, order, days []int) ([]int, api.Errno) {
	if e := checkTruth(c, order, days); e != api.OK {
		return nil, e
	}
	return costs(c, order, days), api.OK
}

// Cost returns the cost of an order.
func Cost(c Caravan, order, days []int) (int, api.Errno) {
	if e := checkTruth(c, order, days); e != api.OK {
		return 0, e
	}
	return slices.Max(costs(c, order, days)), api.OK
}

// checkTruth returns the error of an order, or of the days that its loads take.
func checkTruth(c Caravan, order, days []int) api.Errno {
	if e := Valid(c, order); e != api.OK {
		return e
	}
	if len(days) != len(c.Loads) {
		return api.ErrMany
	}
	for i, l := range c.Loads {
		if days[i] < l.Least || days[i] > l.Most {
			return api.ErrRange
		}
	}
	return api.OK
}

func arrivals(order, days []int) []int {
	arrive := make([]int, len(order))
	day := 0
	for _, load := range order {
		day += days[load]
		arrive[load] = day
	}
	return arrive
}

func costs(c Caravan, order, days []int) []int {
	costs := arrivals(order, days)
	for i, l := range c.Loads {
		costs[i] = l.cost(costs[i])
	}
	return costs
}

// worst returns the worst truth: in no other one a load arrives later.
func worst(c Caravan) []int {
	var days []int
	for _, l := range c.Loads {
		days = append(days, l.Most)
	}
	return days
}
