package share_test

import (
	"math/rand/v2"
	"slices"
	"testing"

	"novaculite/api"
	"novaculite/drain"
	"novaculite/share"
)

func TestJoins(t *testing.T) { // P10.6
	for _, x := range []struct {
		h             drain.Hill
		gallery, want int
		wantE         api.Errno
	}{
		{hill(1, 0, 1, 7), 0, 7, api.OK}, // there are no others
		{hill(1, 0, 1, 0), 0, 0, api.OK},
		{fork(), 0, 1, api.OK},
		{fork(), 1, 1, api.OK},
		{poor(), 2, 1, api.OK},
		{poor(), 0, 0, api.OK},
		{hill(2, 0, 2, 0, 1, 0, 1, 1, 2, 20), 0, -19, api.OK},
		{hill(3, 0, 1, 1, 1, 2, 1, 2, 3, 1), 1, 0, api.ErrLost},
		{hillH(), 3, 0, api.ErrNone},
		{hillH(), -1, 0, api.ErrNone},
		{hillH(), 6, 0, api.ErrNone},
		{hillH(), greatest, 0, api.ErrNone},
		{hillH(), smallest, 0, api.ErrNone},
	} {
		n, e := share.Joins(x.h, x.gallery)
		wantValue(t, "Joins", n, e, x.want, x.wantE)
	}
}

func TestJoinsOfRandomHills(t *testing.T) { // P10.6
	lost := 0
	forHills(300, func(_ *rand.Rand, h drain.Hill, costs []int) {
		all := 1<<h.Galleries - 1
		for g := range h.Galleries {
			n, e := share.Joins(h, g)
			others := costs[all&^(1<<g)]
			if others < 0 {
				lost++
				wantValue(t, "Joins", n, e, 0, api.ErrLost)
				continue
			}
			wantValue(t, "Joins", n, e, costs[all]-others, api.OK)
		}
	})
	if lost == 0 {
		t.Error("no gallery was needed")
	}
}

func TestMarginalErrors(t *testing.T) { // P10.7
	for _, x := range []struct {
		h     drain.Hill
		order []int
		want  api.Errno
	}{
		{hillH(), nil, api.ErrShape},
		{hillH(), list(0, 1, 2, 0), api.ErrShape},
		{hillH(), list(9, 9), api.ErrShape},
		{hillH(), make([]int, 1000), api.ErrShape},
		{hillH(), list(0, 1, 3), api.ErrNone},
		{hillH(), list(-1, 0, 0), api.ErrNone},
		{hillH(), list(0, 0, 3), api.ErrTwice},
		{hillH(), list(0, 1, 0), api.ErrTwice},
		{hillH(), list(3, 3, 3), api.ErrNone},
		{hillH(), list(greatest, 0, 1), api.ErrNone},
		{hillH(), list(0, smallest, 1), api.ErrNone},
		{hillM(), list(0, 0), api.ErrTwice}, // though 0 cannot drain alone
		{hillM(), list(0, 2), api.ErrNone},
		{fork(), list(0, 1, 2), api.ErrLost},
		{hill(3, 0, 3, 1, 1, 2, 1, 2, 3, 1), list(0, 1, 2), api.ErrLost},
	} {
		l, e := share.Marginal(x.h, x.order)
		wantList(t, "Marginal", l, e, nil, x.want)
	}
}

func TestMarginal(t *testing.T) { // P10.7
	for _, x := range []struct {
		h           drain.Hill
		order, want []int
	}{
		{hill(1, 0, 1, 7), list(0), list(7)},
		{fork(), list(2, 0, 1), list(1, 1, 1)},
		{poor(), list(2, 1, 0), list(0, -8, 9)},
		{poor(), list(1, 2, 0), list(0, 0, 1)},
	} {
		l, e := share.Marginal(x.h, x.order)
		wantList(t, "Marginal", l, e, x.want, api.OK)
	}
}

func TestAverage(t *testing.T) { // P10.7
	wantAverage(t, hill(1, 0, 1, 7), list(7), 1, api.OK)
	wantAverage(t, hill(2, 0, 2, 0, 1, 0, 1, 1, 2, 20), list(-19, 21), 2, api.OK)
	wantAverage(t, poor(), list(-8, -8, 22), 6, api.OK)
	wantAverage(t, fork(), nil, 0, api.ErrLost)
}

func TestOrdersOfRandomHills(t *testing.T) { // P10.7
	seen := map[api.Errno]int{}
	forHills(200, func(r *rand.Rand, h drain.Hill, costs []int) {
		sums := make([]int, h.Galleries)
		orders := ordersOf(h.Galleries)
		for _, order := range orders {
			adds := marginalOf(costs, order)
			if r.IntN(len(orders)) < 24 {
				l, e := share.Marginal(h, order)
				wantList(t, "Marginal", l, e, adds, errorUnless(adds != nil, api.ErrLost))
			}
			for g, n := range adds {
				sums[g] += n
			}
		}
		if slices.Contains(costs, -1) {
			wantAverage(t, h, nil, 0, api.ErrLost)
			seen[api.ErrLost]++
			return
		}
		wantAverage(t, h, sums, len(orders), api.OK)
		seen[api.OK]++
	})
	if len(seen) != 2 {
		t.Errorf("hills by errors of Average: %v", seen)
	}
}
