package share

import (
	"slices"

	"novaculite/api"
	"novaculite/drain"
)

// Joins returns how much more a hill costs with a gallery.
func Joins(h drain.Hill, gallery int) (int, api.Errno) {
	least, e := drain.Least(h)
	if e != api.OK {
		return 0, e
	}
	if !hasGallery(h, gallery) {
		return 0, api.ErrNone
	}
	others := costsOf(h).of(allOf(h).without(gallery))
	if others == lost {
		return 0, api.ErrLost
	}
	return least - others, api.OK
}

// Marginal returns what each gallery adds in an order.
func Marginal(h drain.Hill, order []int) ([]int, api.Errno) {
	if _, e := drain.Least(h); e != api.OK {
		return nil, e
	}
	if e := checkOrder(h, order); e != api.OK {
		return nil, e
	}
	c := costsOf(h)
	adds := make([]int, h.Galleries)
	var before part = nobody{}
	for _, gallery := range order {
		now := before.with(gallery)
		if c.of(now) == lost {
			return nil, api.ErrLost
		}
		adds[gallery] = c.of(now) - c.of(before)
		before = now
	}
	return adds, api.OK
}

// Average returns the sums of this over all orders.
func Average(h drain.Hill) (sums []int, orders int, e api.Errno) {
	if _, e := drain.Least(h); e != api.OK {
		return nil, 0, e
	}
	c := costsOf(h)
	if slices.Contains(c, lost) {
		return nil, 0, api.ErrLost
	}
	for gallery := range h.Galleries {
		sums = append(sums, sumOf(h, c, gallery))
	}
	return sums, ordersOf(h.Galleries), api.OK
}

func checkOrder(h drain.Hill, order []int) api.Errno {
	if len(order) != h.Galleries {
		return api.ErrShape
	}
	for i, gallery := range order {
		if !hasGallery(h, gallery) {
			return api.ErrNone
		}
		if slices.Contains(order[:i], gallery) {
			return api.ErrTwice
		}
	}
	return api.OK
}

// sumOf returns what a gallery adds in all orders together. All groups can drain
// alone.
func sumOf(h drain.Hill, c costs, gallery int) int {
	sum := 0
	for before := range allOf(h) { // 0 is nobody
		if before.has(gallery) {
			continue
		}
		after := h.Galleries - before.size() - 1
		orders := ordersOf(before.size()) * ordersOf(after)
		sum += orders * (c.of(before.with(gallery)) - c.of(partOf(before)))
	}
	return sum
}

// ordersOf returns in how many orders so many galleries can be.
func ordersOf(galleries int) int {
	orders := 1
	for i := range galleries {
		orders *= i + 1
	}
	return orders
}
