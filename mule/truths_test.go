package mule_test

import (
	"math/rand/v2"
	"slices"
	"testing"

	"novaculite/api"
	"novaculite/mule"
)

func TestTruthErrors(t *testing.T) { // P11.4
	for _, x := range []struct {
		days []int
		want api.Errno
	}{
		{nil, api.ErrMany},
		{list(0, 0), api.ErrMany},
		{list(3, 2, 1, 1), api.ErrMany},
		{make([]int, 1000), api.ErrMany},
		{list(2, 2, 1), api.ErrRange},
		{list(5, 2, 1), api.ErrRange},
		{list(3, 1, 1), api.ErrRange},
		{list(3, 3, 1), api.ErrRange},
		{list(3, 2, 0), api.ErrRange},
		{list(3, 2, 4), api.ErrRange},
		{list(3, 2, -1), api.ErrRange},
		{list(2, 3, 1), api.ErrRange}, // within the bounds of each other
		{list(greatest, 2, 1), api.ErrRange},
		{list(3, 2, smallest), api.ErrRange},
	} {
		for _, order := range ordersOf(caravanC()) {
			wantTruth(t, caravanC(), order, x.days, nil, nil, 0, x.want)
		}
	}
}

func TestTruths(t *testing.T) { // P11.4
	for _, x := range []struct {
		c                          mule.Caravan
		order, days, arrive, costs []int
		cost                       int
	}{
		{caravanC(), list(1, 0, 2), list(4, 2, 3), list(6, 2, 9), list(2, 0, 1), 2},
		{caravanC(), list(0, 2, 1), list(4, 2, 3), list(4, 9, 7), list(0, 6, 1), 6},
		{caravanC(), list(0, 1, 2), list(4, 2, 3), list(4, 6, 9), list(0, 3, 1), 3},
		{caravanC(), list(0, 2, 1), list(3, 2, 1), list(3, 6, 4), list(0, 3, 1), 3},
		{caravan(loads(1, 9, 4, 3, 7)), list(0), list(4), list(4), list(7), 7},
		{caravan(loads(1, 9, 4, 3, 7)), list(0), list(5), list(5), list(10), 10},
		{caravan(loads(1, 9, 54, 9, 0)), list(0), list(9), list(9), list(0), 0},
		{caravan(loads(1, 9, 0, 0, 20)), list(0), list(9), list(9), list(20), 20},
		{long(), list(5, 4, 3, 2, 1, 0), list(9, 9, 9, 9, 9, 9), list(54, 45, 36, 27, 18, 9),
			list(506, 425, 344, 263, 182, 101), 506},
	} {
		wantTruth(t, x.c, x.order, x.days, x.arrive, x.costs, x.cost, api.OK)
	}
}

func TestRandomTruths(t *testing.T) { // P11.4
	forCaravans(100, func(r *rand.Rand, c mule.Caravan) {
		order, days := anyOf(r, ordersOf(c)), randomDays(r, c)
		costs := costsOf(c, order, days)
		wantTruth(t, c, order, days, arrivalsOf(order, days), costs, slices.Max(costs), api.OK)
		load := r.IntN(len(days))
		days[load] = anyOf(r, append(edges(), c.Loads[load].Least-1, c.Loads[load].Most+1))
		if l := c.Loads[load]; days[load] < l.Least || days[load] > l.Most {
			wantTruth(t, c, order, days, nil, nil, 0, api.ErrRange)
		}
	})
}
