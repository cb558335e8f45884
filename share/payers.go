package share

import (
	"slices"

	"novaculite/api"
	"novaculite/drain"
)

// Planned returns the split by a cheapest plan.
func Planned(h drain.Hill) ([]int, api.Errno) {
	plan, e := drain.Cheapest(h)
	if e != api.OK {
		return nil, e
	}
	return paidFor(h, plan), api.OK
}

// Plans returns how many splits there are by cheapest plans.
func Plans(h drain.Hill) (int, api.Errno) {
	least, e := drain.Least(h)
	if e != api.OK {
		return 0, e
	}
	var splits [][]int
	for _, plan := range choices(h) {
		if cost, e := drain.Cost(h, plan); e == api.OK && cost == least {
			splits = append(splits, paidFor(h, plan))
		}
	}
	slices.SortFunc(splits, slices.Compare[[]int])
	return len(slices.CompactFunc(splits, slices.Equal[[]int])), api.OK
}

// Paid returns the split of dues that are paid by galleries.
func Paid(h drain.Hill, payers []int) ([]int, api.Errno) {
	dues, e := drain.Dues(h)
	if e != api.OK {
		return nil, e
	}
	if len(payers) != len(dues) {
		return nil, api.ErrShape
	}
	split := make([]int, h.Galleries)
	for i, due := range dues {
		if !slices.Contains(due.Group, payers[i]) {
			return nil, api.ErrNone
		}
		split[payers[i]] += due.Pay
	}
	return split, api.OK
}

// Bounds returns the sums of dues of a gallery alone, and of all with it.
func Bounds(h drain.Hill, gallery int) (low, high int, e api.Errno) {
	dues, e := drain.Dues(h)
	if e != api.OK {
		return 0, 0, e
	}
	if !hasGallery(h, gallery) {
		return 0, 0, api.ErrNone
	}
	for _, due := range dues {
		if !slices.Contains(due.Group, gallery) {
			continue
		}
		high += due.Pay
		if len(due.Group) == 1 {
			low += due.Pay
		}
	}
	return low, high, api.OK
}

func hasGallery(h drain.Hill, number int) bool { return number >= 0 && number < h.Galleries }

// paidFor returns what each gallery pays for its own channel in a plan.
func paidFor(h drain.Hill, plan []int) []int {
	split := make([]int, h.Galleries)
	for _, i := range plan {
		c := h.Channels[i]
		split[c[0]] = c[2]
	}
	return split
}

// choices returns all lists with one channel from each gallery, in ascending order
// of the channels: all plans, and lists by which some gallery does not drain.
func choices(h drain.Hill) [][]int {
	lists := [][]int{nil}
	for gallery := range h.Galleries {
		var longer [][]int
		for _, list := range lists {
			for i, c := range h.Channels {
				if c[0] == gallery {
					longer = append(longer, append(slices.Clone(list), i))
				}
			}
		}
		lists = longer
	}
	for _, list := range lists {
		slices.Sort(list)
	}
	return lists
}
