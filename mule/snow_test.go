package mule_test

import (
	"math/rand/v2"
	"slices"
	"testing"

	"novaculite/api"
	"novaculite/mule"
)

func TestSnowErrors(t *testing.T) { // P11.7
	for _, snow := range list(smallest, -1, mule.MaxDay+1, 100, greatest) {
		for _, c := range []mule.Caravan{caravanC(), alike(3), long()} {
			n, e := mule.Late(c, ordersOf(c)[0], snow)
			wantNumber(t, "Late", n, e, 0, api.ErrRange)
			n, e = mule.Saved(c, snow)
			wantNumber(t, "Saved", n, e, 0, api.ErrRange)
		}
	}
}

func TestLate(t *testing.T) { // P11.7
	for _, x := range []struct {
		c          mule.Caravan
		order      []int
		snow, want int
		wantE      api.Errno
	}{
		{caravanC(), list(1, 0, 2), 0, 1, api.OK},
		{caravanC(), list(1, 0, 2), 1, 1, api.OK},
		{caravanC(), list(1, 0, 2), 2, 0, api.OK}, // 1 is in time on the day itself
		{caravanC(), list(1, 0, 2), 8, 2, api.OK}, // if not 2 takes its fewest days
		{caravanC(), list(1, 0, 2), 54, 0, api.ErrClash},
		{caravanC(), list(0, 2, 1), 6, 2, api.OK},
		{caravanC(), list(0, 2, 1), 7, 1, api.OK},
		{alike(1), list(0), 0, 0, api.OK},
		{alike(1), list(0), 1, 0, api.ErrClash},
		{long(), list(5, 4, 3, 2, 1, 0), 53, 0, api.OK},
		{long(), list(5, 4, 3, 2, 1, 0), 54, 0, api.ErrClash},
		{long(), list(5, 4, 3, 2, 0, 1), 53, 1, api.OK},
	} {
		n, e := mule.Late(x.c, x.order, x.snow)
		wantNumber(t, "Late", n, e, x.want, x.wantE)
	}
}

func TestSaved(t *testing.T) { // P11.7
	small := caravan(loads(5, 5, 0, 0, 0, 1, 2, 0, 0, 0, 3, 3, 0, 0, 0))
	slow := caravan(small.Loads, 0, 1, 0, 2)
	for _, x := range []struct {
		c     mule.Caravan
		saved []int // by snow on the days 0, 1, and so on
	}{
		{caravanC(), list(0, 0, 1, 1, 1, 1, 2, 2, 2, 3)},
		{alike(6), list(0, 1, 2, 3, 4, 5, 6, 6)},
		{small, list(0, 0, 1, 1, 1, 2, 2, 2, 2, 2, 3)},
		{slow, list(0, 0, 0, 0, 0, 1, 1, 2, 2, 2, 3)}, // none before the load 0
	} {
		for snow, want := range x.saved {
			n, e := mule.Saved(x.c, snow)
			wantNumber(t, "Saved", n, e, want, api.OK)
		}
	}
	n, e := mule.Saved(long(), 53)
	wantNumber(t, "Saved", n, e, 5, api.OK)
	n, e = mule.Saved(long(), 54)
	wantNumber(t, "Saved", n, e, 6, api.OK)
}

// savedOf returns how many loads of an order arrive on day snow or before in each
// truth.
func savedOf(order []int, snow int, truths [][]int) int {
	return len(order) - len(lateOf(order, snow, truths))
}

func TestSnowOfRandomCaravans(t *testing.T) { // P11.7
	forCaravans(60, func(r *rand.Rand, c mule.Caravan) {
		orders, truths := ordersOf(c), [][]int{worstOf(c)}
		sum := slices.Max(arrivalsOf(orders[0], truths[0]))
		if len(orders) <= 24 {
			truths = someTruths(r, c)
		}
		for _, snow := range list(r.IntN(sum+1), r.IntN(sum+1), r.IntN(mule.MaxDay+1)) {
			most := 0
			for _, order := range orders {
				most = max(most, savedOf(order, snow, truths))
			}
			n, e := mule.Saved(c, snow)
			wantNumber(t, "Saved", n, e, most, api.OK)
			order := anyOf(r, orders)
			wantLate(t, c, order, snow, truths)
		}
	})
}

func wantLate(t *testing.T, c mule.Caravan, order []int, snow int, truths [][]int) (late bool) {
	t.Helper()
	n, e := mule.Late(c, order, snow)
	all := lateOf(order, snow, truths)
	if len(all) == 0 {
		wantNumber(t, "Late", n, e, 0, api.ErrClash)
		return false
	}
	wantNumber(t, "Late", n, e, all[0], api.OK)
	return true
}

func TestLatestErrors(t *testing.T) { // P11.8
	for _, cost := range list(smallest, -1000, -1) {
		for _, c := range []mule.Caravan{caravanC(), long()} {
			l, e := mule.Latest(c, cost)
			wantList(t, "Latest", l, e, nil, api.ErrRange)
		}
	}
}

func TestLatest(t *testing.T) { // P11.8
	some := caravan(loads(1, 1, 3, 0, 20, 1, 1, 54, 9, 0, 1, 1, 50, 9, 0, 1, 1, 0, 9, 20, 1, 1, 0, 9, 0))
	for _, x := range []struct {
		c    mule.Caravan
		cost int
		want []int
	}{
		{caravanC(), 2, list(6, 5, 9)},
		{caravanC(), 4, list(7, 7, 10)},
		{some, 0, list(-1, 54, 50, -1, 0)},
		{some, 8, list(-1, 54, 50, -1, 0)},
		{some, 19, list(-1, 54, 52, -1, 2)},
		{some, 20, list(54, 54, 52, 0, 2)},
		{some, 28, list(54, 54, 53, 0, 3)},
		{some, 29, list(54, 54, 53, 1, 3)},
		{some, 36, list(54, 54, 54, 1, 4)},
		{some, 485, list(54, 54, 54, 51, 53)},
		{some, 486, list(54, 54, 54, 51, 54)},
		{some, 506, list(54, 54, 54, 54, 54)},
		{some, greatest, list(54, 54, 54, 54, 54)},
	} {
		l, e := mule.Latest(x.c, x.cost)
		wantList(t, "Latest", l, e, x.want, api.OK)
	}
}

func TestLatestOfRandomCaravans(t *testing.T) { // P11.8
	forCaravans(60, func(_ *rand.Rand, c mule.Caravan) {
		for _, cost := range append(edges(), 4, 8, 11, 15, 30, 100, 300, 500) {
			if cost < 0 {
				continue
			}
			l, e := mule.Latest(c, cost)
			wantList(t, "Latest", l, e, latestOf(c, cost), api.OK)
		}
	})
}
