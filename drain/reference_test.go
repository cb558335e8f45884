package drain_test

import (
	"slices"

	"novaculite/drain"
)

// The functions of this file say again, in the plainest way, what the chapter
// defines; no one of them uses the package's functions.

// groupsOf returns all groups, in ascending order (R6).
func groupsOf(h drain.Hill) [][]int {
	var groups [][]int
	for mask := 1; mask < 1<<h.Galleries; mask++ {
		var group []int
		for g := range h.Galleries {
			if mask>>g&1 == 1 {
				group = append(group, g)
			}
		}
		groups = append(groups, group)
	}
	slices.SortFunc(groups, slices.Compare[[]int])
	return groups
}

func leavingOf(h drain.Hill, group []int) []int {
	var leaving []int
	for i, c := range h.Channels {
		if slices.Contains(group, c[0]) && !slices.Contains(group, c[1]) {
			leaving = append(leaving, i)
		}
	}
	return leaving
}

// reaches reports whether some way of at most so many channels leads from a place to the mouth.
func reaches(h drain.Hill, from, most int) bool {
	if from == h.Galleries {
		return true
	}
	for _, c := range h.Channels {
		if c[0] == from && most > 0 && reaches(h, c[1], most-1) {
			return true
		}
	}
	return false
}

func stuckOf(h drain.Hill) []int {
	var stuck []int
	for g := range h.Galleries {
		if !reaches(h, g, h.Galleries) {
			stuck = append(stuck, g)
		}
	}
	return stuck
}

// trapOf returns nil if there is no trap.
func trapOf(h drain.Hill) []int {
	var trap []int
	for _, group := range groupsOf(h) {
		if len(leavingOf(h, group)) == 0 && (trap == nil || len(group) < len(trap)) {
			trap = group
		}
	}
	return trap
}

func narrowOf(h drain.Hill) ([]int, int) {
	var narrow []int
	fewest := greatest
	for _, group := range groupsOf(h) {
		if n := len(leavingOf(h, group)); n < fewest {
			narrow, fewest = group, n
		}
	}
	return narrow, fewest
}

// plansOf tries all lists with one channel from each gallery.
func plansOf(h drain.Hill) [][]int {
	lists := [][]int{nil}
	for g := range h.Galleries {
		var longer [][]int
		for _, l := range lists {
			for i, c := range h.Channels {
				if c[0] == g {
					longer = append(longer, append(slices.Clone(l), i))
				}
			}
		}
		lists = longer
	}
	var plans [][]int
	for _, l := range lists {
		if len(stuckOf(only(h, l))) == 0 {
			slices.Sort(l)
			plans = append(plans, l)
		}
	}
	slices.SortFunc(plans, slices.Compare[[]int])
	return plans
}

// only returns the hill with some of its channels alone.
func only(h drain.Hill, channels []int) drain.Hill {
	some := drain.Hill{Galleries: h.Galleries}
	for _, i := range channels {
		some.Channels = append(some.Channels, h.Channels[i])
	}
	return some
}

func costOf(h drain.Hill, plan []int) int {
	cost := 0
	for _, i := range plan {
		cost += h.Channels[i][2]
	}
	return cost
}

// cheapestOf returns all cheapest plans, in ascending order, and their cost.
func cheapestOf(h drain.Hill) ([][]int, int) {
	var cheapest [][]int
	least := greatest
	for _, plan := range plansOf(h) {
		switch cost := costOf(h, plan); {
		case cost < least:
			cheapest, least = [][]int{plan}, cost
		case cost == least:
			cheapest = append(cheapest, plan)
		}
	}
	return cheapest, least
}

// neededOf returns the channels that are in every plan.
func neededOf(h drain.Hill) []int {
	var needed []int
	for i := range h.Channels {
		if len(plansOf(h)) > 0 && len(plansOf(lacking(h, i))) == 0 {
			needed = append(needed, i)
		}
	}
	return needed
}

// inSome reports whether a channel is in some of some plans.
func inSome(plans [][]int, channel int) bool {
	return slices.ContainsFunc(plans, func(plan []int) bool { return slices.Contains(plan, channel) })
}

// apartOf returns all lists of so many plans that are apart, in ascending order.
func apartOf(h drain.Hill, number int) [][][]int {
	plans := plansOf(h)
	lists := [][][]int{nil}
	for range number {
		var longer [][][]int
		for _, l := range lists {
			for _, plan := range plans {
				if len(l) > 0 && slices.Compare(l[len(l)-1], plan) >= 0 {
					continue
				}
				if !slices.ContainsFunc(plan, func(c int) bool { return inSome(l, c) }) {
					longer = append(longer, append(slices.Clone(l), plan))
				}
			}
		}
		lists = longer
	}
	return lists
}

// duesOf follows the chapter's steps; the hill has no trap.
func duesOf(h drain.Hill) []drain.Due {
	left := copyOf(h)
	var dues []drain.Due
	for {
		group := payerOf(left)
		if group == nil {
			return dues
		}
		pay := greatest
		for _, i := range leavingOf(left, group) {
			pay = min(pay, left.Channels[i][2])
		}
		for _, i := range leavingOf(left, group) {
			left.Channels[i][2] -= pay
		}
		dues = append(dues, drain.Due{Group: group, Pay: pay})
	}
}

// payerOf returns the first group that no channel leaves that costs 0, with no
// other such group within it, or nil.
func payerOf(h drain.Hill) []int {
	pays := func(group []int) bool {
		return !slices.ContainsFunc(leavingOf(h, group), func(i int) bool { return h.Channels[i][2] == 0 })
	}
	for _, group := range groupsOf(h) {
		if !pays(group) {
			continue
		}
		smaller := slices.ContainsFunc(groupsOf(h), func(other []int) bool {
			return len(other) < len(group) && pays(other) && !slices.ContainsFunc(other, func(g int) bool {
				return !slices.Contains(group, g)
			})
		})
		if !smaller {
			return group
		}
	}
	return nil
}

func chargedOf(h drain.Hill, dues []drain.Due) []int {
	charged := make([]int, len(h.Channels))
	for _, d := range dues {
		for _, i := range leavingOf(h, d.Group) {
			charged[i] += d.Pay
		}
	}
	return charged
}

func sumOf(dues []drain.Due) int {
	sum := 0
	for _, d := range dues {
		sum += d.Pay
	}
	return sum
}

// matrixOf returns the numbers of P2.11.
func matrixOf(h drain.Hill) [][]int {
	var rows [][]int
	for range h.Galleries {
		rows = append(rows, make([]int, h.Galleries))
	}
	for _, c := range h.Channels {
		rows[c[0]][c[0]]++
		if c[1] < h.Galleries {
			rows[c[0]][c[1]]--
		}
	}
	return rows
}

// determinant is worked out by the first row.
func determinant(rows [][]int) int {
	if len(rows) == 0 {
		return 1
	}
	sum, sign := 0, 1
	for column, n := range rows[0] {
		var rest [][]int
		for _, row := range rows[1:] {
			rest = append(rest, slices.Delete(slices.Clone(row), column, column+1))
		}
		sum += sign * n * determinant(rest)
		sign = -sign
	}
	return sum
}
