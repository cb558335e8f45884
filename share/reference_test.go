package share_test

import (
	"math/rand/v2"
	"slices"

	"novaculite/drain"
)

// The functions of this file say again, in the plainest way, what the chapter
// defines; no one of them uses the functions of share or drain.

// listOf returns the galleries of a group: the bit of each of them is 1.
func listOf(group int) []int {
	var l []int
	for g := range drain.MaxGalleries {
		if group>>g&1 == 1 {
			l = append(l, g)
		}
	}
	return l
}

func bitsOf(group []int) int {
	bits := 0
	for _, g := range group {
		bits |= 1 << g
	}
	return bits
}

// groupsOf returns all groups, in ascending order (R6).
func groupsOf(galleries int) [][]int {
	var groups [][]int
	for group := 1; group < 1<<galleries; group++ {
		groups = append(groups, listOf(group))
	}
	slices.SortFunc(groups, slices.Compare[[]int])
	return groups
}

// plansOf returns all lists of channels, one from each gallery of a group, by which
// it drains without the other galleries.
func plansOf(h drain.Hill, group []int) [][]int {
	plans := [][]int{nil}
	for _, g := range group {
		var longer [][]int
		for _, plan := range plans {
			for i, c := range h.Channels {
				if c[0] == g && (c[1] == h.Galleries || slices.Contains(group, c[1])) {
					longer = append(longer, append(slices.Clone(plan), i))
				}
			}
		}
		plans = longer
	}
	return slices.DeleteFunc(plans, func(plan []int) bool { return !drains(h, plan) })
}

// drains reports whether each gallery that has a channel in a plan drains by it.
func drains(h drain.Hill, plan []int) bool {
	var next [drain.MaxGalleries]int
	for _, i := range plan {
		next[h.Channels[i][0]] = h.Channels[i][1]
	}
	for _, i := range plan {
		at := h.Channels[i][0]
		for range plan {
			if at != h.Galleries {
				at = next[at]
			}
		}
		if at != h.Galleries {
			return false
		}
	}
	return true
}

func costOf(h drain.Hill, plan []int) int {
	cost := 0
	for _, i := range plan {
		cost += h.Channels[i][2]
	}
	return cost
}

// aloneOf returns the cost of a group, or -1 if it cannot drain alone.
func aloneOf(h drain.Hill, group []int) int {
	least := -1
	for _, plan := range plansOf(h, group) {
		if cost := costOf(h, plan); least < 0 || cost < least {
			least = cost
		}
	}
	return least
}

// costsOf returns the costs of all groups at their bits, and of nobody at 0.
func costsOf(h drain.Hill) []int {
	costs := list(0)
	for group := 1; group < 1<<h.Galleries; group++ {
		costs = append(costs, aloneOf(h, listOf(group)))
	}
	return costs
}

// subOf finds channels of a group in the hill: those without another gallery.
func subOf(h drain.Hill, group []int) drain.Hill {
	numbers := map[int]int{h.Galleries: len(group)}
	for i, g := range group {
		numbers[g] = i
	}
	sub := drain.Hill{Galleries: len(group)}
	for _, c := range h.Channels {
		from, fromThere := numbers[c[0]]
		to, toThere := numbers[c[1]]
		if fromThere && toThere {
			sub.Channels = append(sub.Channels, [3]int{from, to, c[2]})
		}
	}
	return sub
}

// planSplitsOf returns the different splits by cheapest plans, in ascending order.
func planSplitsOf(h drain.Hill) [][]int {
	all := listOf(1<<h.Galleries - 1)
	var splits [][]int
	for _, plan := range plansOf(h, all) {
		if costOf(h, plan) == aloneOf(h, all) {
			splits = append(splits, payments(h, plan))
		}
	}
	slices.SortFunc(splits, slices.Compare[[]int])
	return slices.CompactFunc(splits, slices.Equal[[]int])
}

func payments(h drain.Hill, plan []int) []int {
	split := make([]int, h.Galleries)
	for _, i := range plan {
		split[h.Channels[i][0]] += h.Channels[i][2]
	}
	return split
}

// firstPlanOf returns the first cheapest plan (R6).
func firstPlanOf(h drain.Hill) []int {
	all := listOf(1<<h.Galleries - 1)
	var first []int
	for _, plan := range plansOf(h, all) {
		slices.Sort(plan)
		if costOf(h, plan) == aloneOf(h, all) && (first == nil || slices.Compare(plan, first) < 0) {
			first = plan
		}
	}
	return first
}

func sumOf(split []int) int {
	sum := 0
	for _, pays := range split {
		sum += pays
	}
	return sum
}

// overOf returns what a group that can drain alone is over.
func overOf(costs, split, group []int) int {
	over := -costs[bitsOf(group)]
	for _, g := range group {
		over += split[g]
	}
	return over
}

// whyOf returns nil if the split is steady.
func whyOf(costs, split []int) []int {
	var why []int
	most := 0
	for _, group := range groupsOf(len(split)) {
		if costs[bitsOf(group)] >= 0 && overOf(costs, split, group) > most {
			why, most = group, overOf(costs, split, group)
		}
	}
	return why
}

// splitsOf returns all lists of so many numbers, from 0 on, with a sum.
func splitsOf(galleries, sum int) [][]int {
	if galleries == 1 {
		return [][]int{{sum}}
	}
	var splits [][]int
	for first := range sum + 1 {
		for _, rest := range splitsOf(galleries-1, sum-first) {
			splits = append(splits, append(list(first), rest...))
		}
	}
	return splits
}

// ordersOf returns all orders of some galleries.
func ordersOf(galleries int) [][]int {
	orders := [][]int{nil}
	for range galleries {
		var longer [][]int
		for _, order := range orders {
			for g := range galleries {
				if !slices.Contains(order, g) {
					longer = append(longer, append(slices.Clone(order), g))
				}
			}
		}
		orders = longer
	}
	return orders
}

// marginalOf returns nil if some galleries at the beginning cannot drain alone.
func marginalOf(costs, order []int) []int {
	adds := make([]int, len(order))
	for i, g := range order {
		before, now := costs[bitsOf(order[:i])], costs[bitsOf(order[:i+1])]
		if now < 0 {
			return nil
		}
		adds[g] = now - before
	}
	return adds
}

// bendsOf returns all bends, in ascending order (R6).
func bendsOf(galleries int, costs []int) [][2][]int {
	var bends [][2][]int
	for _, one := range groupsOf(galleries) {
		for _, two := range groupsOf(galleries) {
			a, b := bitsOf(one), bitsOf(two)
			if costs[a] < 0 || costs[b] < 0 {
				continue
			}
			lost := a&b != 0 && costs[a&b] < 0
			if lost || costs[a|b]+costs[a&b] > costs[a]+costs[b] {
				bends = append(bends, [2][]int{one, two})
			}
		}
	}
	return bends
}

// renamed gives galleries other numbers, and channels another order; names are the
// new numbers.
func renamed(r *rand.Rand, h drain.Hill) (other drain.Hill, names []int) {
	other = clone(h)
	names = append(r.Perm(h.Galleries), h.Galleries)
	for i, c := range h.Channels {
		other.Channels[i] = [3]int{names[c[0]], names[c[1]], c[2]}
	}
	shuffle(r, other.Channels)
	return other, names
}

// renamedGroup returns the bits of a group after its galleries got new numbers.
func renamedGroup(group int, names []int) int {
	bits := 0
	for _, g := range listOf(group) {
		bits |= 1 << names[g]
	}
	return bits
}
