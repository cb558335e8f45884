package drain

import (
	"cmp"
	"slices"

	"novaculite/api"
)

// Valid checks a plan.
func Valid(h Hill, plan []int) api.Errno {
	if e := Check(h); e != api.OK {
		return e
	}
	channels := channelsOf(h)
	var from set
	for i, c := range plan {
		if !hasChannel(h, c) {
			return api.ErrNone
		}
		if i > 0 && c <= plan[i-1] {
			return api.ErrOrder
		}
		g := channels[c].from
		if g.in(from) {
			return api.ErrTwice
		}
		from |= g.alone()
	}
	if from != allOf(h) {
		return api.ErrOpen
	}
	if drained(chosen(channels, plan)) != from {
		return api.ErrClash
	}
	return api.OK
}

// Cost returns the cost of a plan.
func Cost(h Hill, plan []int) (int, api.Errno) {
	if e := Valid(h, plan); e != api.OK {
		return 0, e
	}
	return costOf(h, plan), api.OK
}

// Way returns the way from a gallery by a plan.
func Way(h Hill, plan []int, gallery int) ([]int, api.Errno) {
	if e := Valid(h, plan); e != api.OK {
		return nil, e
	}
	if !hasGallery(h, gallery) {
		return nil, api.ErrNone
	}
	return wayFrom(placeOf(h, gallery), chosen(channelsOf(h), plan)), api.OK
}

// Cheapest returns the first cheapest plan.
func Cheapest(h Hill) ([]int, api.Errno) {
	plans, e := somePlans(h)
	if e != api.OK {
		return nil, e
	}
	return cheapestOf(h, plans), api.OK
}

// Least returns the cost of a cheapest plan.
func Least(h Hill) (int, api.Errno) {
	plans, e := somePlans(h)
	if e != api.OK {
		return 0, e
	}
	return leastOf(h, plans), api.OK
}

// Count returns the number of plans.
func Count(h Hill) (int, api.Errno) {
	if e := Check(h); e != api.OK {
		return 0, e
	}
	return len(plansOf(h)), api.OK
}

// Equal returns the number of cheapest plans.
func Equal(h Hill) (int, api.Errno) {
	plans, e := somePlans(h)
	if e != api.OK {
		return 0, e
	}
	least := leastOf(h, plans)
	equal := 0
	for _, plan := range plans {
		if costOf(h, plan) == least {
			equal++
		}
	}
	return equal, api.OK
}

// Needed returns the channels that are in every plan.
func Needed(h Hill) ([]int, api.Errno) {
	plans, e := somePlans(h)
	if e != api.OK {
		return nil, e
	}
	var needed []int
	for i := range h.Channels {
		if _, others := divided(plans, i); len(others) == 0 {
			needed = append(needed, i)
		}
	}
	return needed, api.OK
}

// Without returns how much greater the least cost is without a channel.
func Without(h Hill, channel int) (int, api.Errno) {
	plans, e := plansWithChannel(h, channel)
	if e != api.OK {
		return 0, e
	}
	_, others := divided(plans, channel)
	if len(others) == 0 {
		return 0, api.ErrLost
	}
	return leastOf(h, others) - leastOf(h, plans), api.OK
}

// Price returns the greatest cost at which a channel is in a cheapest plan.
func Price(h Hill, channel int) (int, api.Errno) {
	plans, e := plansWithChannel(h, channel)
	if e != api.OK {
		return 0, e
	}
	having, others := divided(plans, channel)
	if len(having) == 0 {
		return 0, api.ErrLost
	}
	if len(others) == 0 {
		return 0, api.ErrClash
	}
	rest := leastOf(h, having) - h.Channels[channel][2]
	return leastOf(h, others) - rest, api.OK
}

// Apart returns plans without a common channel.
func Apart(h Hill, plans int) ([][]int, api.Errno) {
	if e := Check(h); e != api.OK {
		return nil, e
	}
	if plans < 1 || plans > MaxPlans {
		return nil, api.ErrRange
	}
	first := firstApart(plansOf(h), plans)
	if first == nil {
		return nil, api.ErrLost
	}
	return first, api.OK
}

// Most returns the greatest number of plans without a common channel.
func Most(h Hill) (int, api.Errno) {
	if e := Check(h); e != api.OK {
		return 0, e
	}
	plans := plansOf(h)
	most := 0
	for firstApart(plans, most+1) != nil {
		most++
	}
	return most, api.OK
}

// plansOf returns all plans, in ascending order.
func plansOf(h Hill) [][]int { return plansFrom(h, channelsOf(h), nil, 0) }

// plansFrom returns all plans that begin with some channels, in ascending
// order; these lead from the galleries of a set.
func plansFrom(h Hill, channels []channel, begun []int, from set) [][]int {
	if from == allOf(h) {
		if drained(chosen(channels, begun)) != from {
			return nil
		}
		return [][]int{begun}
	}
	next := 0
	if len(begun) > 0 {
		next = begun[len(begun)-1] + 1
	}
	var plans [][]int
	for i := next; i < len(channels); i++ {
		if g := channels[i].from; !g.in(from) {
			longer := append(slices.Clone(begun), i)
			plans = append(plans, plansFrom(h, channels, longer, from|g.alone())...)
		}
	}
	return plans
}

// somePlans returns all plans, or ErrLost if there is none.
func somePlans(h Hill) ([][]int, api.Errno) {
	if e := Check(h); e != api.OK {
		return nil, e
	}
	plans := plansOf(h)
	if len(plans) == 0 {
		return nil, api.ErrLost
	}
	return plans, api.OK
}

// plansWithChannel returns all plans, or ErrNone if a channel is none of the hill's.
func plansWithChannel(h Hill, channel int) ([][]int, api.Errno) {
	if e := Check(h); e != api.OK {
		return nil, e
	}
	if !hasChannel(h, channel) {
		return nil, api.ErrNone
	}
	return plansOf(h), api.OK
}

// divided divides plans into those that have a channel and the others.
func divided(plans [][]int, channel int) (having, others [][]int) {
	for _, plan := range plans {
		if slices.Contains(plan, channel) {
			having = append(having, plan)
		} else {
			others = append(others, plan)
		}
	}
	return having, others
}

// firstApart returns the first list of so many of some plans, in their order,
// that are apart, or nil if there is none.
func firstApart(plans [][]int, number int) [][]int {
	for i, plan := range plans {
		if number == 1 {
			return [][]int{plan}
		}
		if rest := firstApart(apartFrom(plan, plans[i+1:]), number-1); rest != nil {
			return append([][]int{plan}, rest...)
		}
	}
	return nil
}

// apartFrom returns those of some plans that have no channel of another one.
func apartFrom(plan []int, plans [][]int) [][]int {
	var apart [][]int
	for _, p := range plans {
		if !slices.ContainsFunc(p, func(c int) bool { return slices.Contains(plan, c) }) {
			apart = append(apart, p)
		}
	}
	return apart
}

func chosen(channels []channel, indices []int) []channel {
	out := make([]channel, 0, len(indices))
	for _, i := range indices {
		out = append(out, channels[i])
	}
	return out
}

func costOf(h Hill, plan []int) int {
	cost := 0
	for _, i := range plan {
		cost += h.Channels[i][2]
	}
	return cost
}

// cheapestOf returns the first cheapest one of plans, of which there is at least one.
func cheapestOf(h Hill, plans [][]int) []int {
	return slices.MinFunc(plans, func(p, q []int) int { return cmp.Compare(costOf(h, p), costOf(h, q)) })
}

func leastOf(h Hill, plans [][]int) int { return costOf(h, cheapestOf(h, plans)) }
