package mule_test

import (
	"math/rand/v2"
	"slices"

	"novaculite/api"
	"novaculite/mule"
)

// The functions of this file follow the definitions of the chapter, without regard
// to how long they take. They are told caravans and orders without an error.

// goesBefore follows pairs from a load to another one, over at most so many pairs.
func goesBefore(pairs [][2]int, load, other, over int) bool {
	if over == 0 {
		return false
	}
	for _, pair := range pairs {
		if pair[0] == load && (pair[1] == other || goesBefore(pairs, pair[1], other, over-1)) {
			return true
		}
	}
	return false
}

// aheadOf tells of two loads whether the first one goes before the second one.
func aheadOf(c mule.Caravan) [][]bool {
	ahead := make([][]bool, len(c.Loads))
	for load := range ahead {
		for other := range c.Loads {
			ahead[load] = append(ahead[load], goesBefore(c.Before, load, other, len(c.Loads)))
		}
	}
	return ahead
}

// validOf returns the error that Valid should return.
func validOf(c mule.Caravan, order []int) api.Errno {
	if len(order) != len(c.Loads) {
		return api.ErrShape
	}
	ahead := aheadOf(c)
	for i, load := range order {
		if load < 0 || load >= len(c.Loads) {
			return api.ErrNone
		}
		if slices.Contains(order[:i], load) {
			return api.ErrTwice
		}
		for other := range c.Loads {
			if ahead[other][load] && !slices.Contains(order[:i], other) {
				return api.ErrOpen
			}
		}
	}
	return api.OK
}

// listsOf returns all lists of so many loads, each once, in ascending order.
func listsOf(number, length int) [][]int {
	lists := [][]int{nil}
	for range length {
		var longer [][]int
		for _, l := range lists {
			for load := range number {
				if !slices.Contains(l, load) {
					longer = append(longer, append(slices.Clone(l), load))
				}
			}
		}
		lists = longer
	}
	return lists
}

// ordersOf returns all orders, in ascending order.
func ordersOf(c mule.Caravan) [][]int {
	ahead := aheadOf(c)
	return slices.DeleteFunc(listsOf(len(c.Loads), len(c.Loads)), func(order []int) bool {
		for i, load := range order {
			for _, behind := range order[i:] {
				if ahead[behind][load] {
					return true
				}
			}
		}
		return false
	})
}

// groupsOf returns all lists of loads, at least one, each list in ascending order.
// Shorter ones come first, and of the same length the smaller ones.
func groupsOf(number int) [][]int {
	var groups [][]int
	for length := range number {
		for _, l := range listsOf(number, length+1) {
			if slices.IsSorted(l) {
				groups = append(groups, l)
			}
		}
	}
	return groups
}

func costOf(l mule.Load, day int) int {
	cost := l.Base
	for after := l.Due; after < day; after++ {
		cost += l.Rate
	}
	return cost
}

func arrivalsOf(order, days []int) []int {
	arrive := make([]int, len(order))
	for load := range arrive {
		for _, before := range order[:slices.Index(order, load)+1] {
			arrive[load] += days[before]
		}
	}
	return arrive
}

func costsOf(c mule.Caravan, order, days []int) []int {
	var costs []int
	for load, day := range arrivalsOf(order, days) {
		costs = append(costs, costOf(c.Loads[load], day))
	}
	return costs
}

func worstOf(c mule.Caravan) []int {
	var days []int
	for _, l := range c.Loads {
		days = append(days, l.Most)
	}
	return days
}

// worstCostOf returns what an order costs in the worst truth.
func worstCostOf(c mule.Caravan, order []int) int { return slices.Max(costsOf(c, order, worstOf(c))) }

// bestsOf returns all best orders, in ascending order, and what they cost.
func bestsOf(c mule.Caravan) (bests [][]int, least int) {
	least = greatest
	for _, order := range ordersOf(c) {
		cost := worstCostOf(c, order)
		if cost < least {
			bests, least = nil, cost
		}
		if cost == least {
			bests = append(bests, order)
		}
	}
	return bests, least
}

// lastOf returns those of some loads that go before no other one of them, and the
// sum of the days of all of them.
func lastOf(c mule.Caravan, group []int) (last []int, day int) {
	ahead := aheadOf(c)
	for _, load := range group {
		day += c.Loads[load].Most
		if !slices.ContainsFunc(group, func(other int) bool { return ahead[load][other] }) {
			last = append(last, load)
		}
	}
	return last, day
}

func boundOf(c mule.Caravan, group []int) int {
	last, day := lastOf(c, group)
	bound := greatest
	for _, load := range last {
		bound = min(bound, costOf(c.Loads[load], day))
	}
	return bound
}

func ruleOf(c mule.Caravan) []int {
	rest := make([]int, len(c.Loads))
	for load := range rest {
		rest[load] = load
	}
	var order []int
	for len(rest) > 0 {
		last, day := lastOf(c, rest)
		slices.Reverse(last)
		next := slices.MinFunc(last, func(load, other int) int { // the first one of several
			return costOf(c.Loads[load], day) - costOf(c.Loads[other], day)
		})
		order = append(list(next), order...)
		rest = slices.DeleteFunc(rest, func(load int) bool { return load == next })
	}
	return order
}

// whyOf returns nothing if no loads have this bound.
func whyOf(c mule.Caravan, least int) []int {
	for _, group := range groupsOf(len(c.Loads)) {
		if boundOf(c, group) == least {
			return group
		}
	}
	return nil
}

// truthsOf returns all truths, in ascending order.
func truthsOf(c mule.Caravan) [][]int {
	truths := [][]int{nil}
	for _, l := range c.Loads {
		var longer [][]int
		for _, days := range truths {
			for n := l.Least; n <= l.Most; n++ {
				longer = append(longer, append(slices.Clone(days), n))
			}
		}
		truths = longer
	}
	return truths
}

// someTruths returns all truths, or some if there are many, with the worst one.
func someTruths(r *rand.Rand, c mule.Caravan) [][]int {
	truths := 1
	for _, l := range c.Loads {
		truths *= l.Most - l.Least + 1
	}
	if truths <= 60 {
		return truthsOf(c)
	}
	some := [][]int{worstOf(c)}
	for range 20 {
		some = append(some, randomDays(r, c))
	}
	return some
}

// lateOf returns the loads that arrive after day snow in some truth, in the order.
func lateOf(order []int, snow int, truths [][]int) []int {
	var late []int
	for _, load := range order {
		if slices.ContainsFunc(truths, func(days []int) bool { return arrivalsOf(order, days)[load] > snow }) {
			late = append(late, load)
		}
	}
	return late
}

func latestOf(c mule.Caravan, cost int) []int {
	var latest []int
	for _, l := range c.Loads {
		last := -1
		for day := range mule.MaxDay + 1 {
			if costOf(l, day) <= cost {
				last = day
			}
		}
		latest = append(latest, last)
	}
	return latest
}

// pairsOf returns all pairs of so many loads, in ascending order.
func pairsOf(number int) [][2]int {
	var pairs [][2]int
	for load := range number {
		for other := range number {
			pairs = append(pairs, [2]int{load, other})
		}
	}
	return pairs
}

// allPairs returns all choices of pairs of different loads.
func allPairs(number int) [][][2]int {
	choices := [][][2]int{nil}
	for _, pair := range pairsOf(number) {
		if pair[0] == pair[1] {
			continue
		}
		for _, chosen := range choices {
			choices = append(choices, append(slices.Clone(chosen), pair))
		}
	}
	return choices
}

// renamed gives loads other numbers, and pairs another order; names are the new
// numbers.
func renamed(r *rand.Rand, c mule.Caravan) (other mule.Caravan, names []int) {
	other = clone(c)
	names = r.Perm(len(c.Loads))
	for load, l := range c.Loads {
		other.Loads[names[load]] = l
	}
	for i, pair := range c.Before {
		other.Before[i] = [2]int{names[pair[0]], names[pair[1]]}
	}
	shuffle(r, other.Before)
	return other, names
}
