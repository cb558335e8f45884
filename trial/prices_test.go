package trial_test

import (
	"slices"
	"testing"

	"novaculite/api"
	"novaculite/trial"
)

func TestPricesOfAllPlans(t *testing.T) { // P4.10
	for levels := range 7 {
		all := knownOf(levels)
		for price := range trial.MaxPrice + 1 {
			for blade := range trial.MaxPrice + 1 {
				wantCheapest(t, all, levels, price, blade)
			}
		}
	}
}

func TestPricesOfManyLevels(t *testing.T) { // P4.10
	for levels := 7; levels <= trial.MaxLevels; levels++ {
		all := knownOf(levels)
		for _, x := range [][2]int{{0, 0}, {0, 50}, {50, 0}, {50, 50}, {1, 1}, {1, 2}, {2, 1}, {1, 4}, {4, 1}, {3, 7}, {1, 50}, {50, 1}} {
			wantCheapest(t, all, levels, x[0], x[1])
		}
	}
}

// wantCheapest compares Price and Cheap with all plans.
func wantCheapest(t *testing.T, all []known, levels, price, blade int) {
	t.Helper()
	first, least := firstOf(all, func(k known) int { return k.price(price, blade) })
	n, e := trial.Price(levels, price, blade)
	wantValue(t, "Price", n, e, least, api.OK)
	plan, e := trial.Cheap(levels, price, blade)
	wantList(t, "Cheap", plan, e, first, api.OK)
	if t.Failed() {
		t.Fatalf("%d levels, a trial for %d, a blade for %d", levels, price, blade)
	}
}

func TestPrices(t *testing.T) { // P4.10
	for i, x := range []struct {
		levels, trial, blade, price int
		plan                        []int
		e                           api.Errno
	}{
		{0, 0, 0, 0, nil, api.OK},
		{0, 50, 50, 0, nil, api.OK},
		{1, 0, 0, 0, list(1), api.OK},
		{1, 3, 4, 7, list(1), api.OK},
		{4, 1, 1, 4, list(2, 1, 3, 4), api.OK},
		{4, 0, 7, 7, list(1, 2, 3, 4), api.OK},
		{12, 0, 0, 0, list(1, 2, 3, 4, 5, 6, 7, 8, 9, 10, 11, 12), api.OK},
		{7, 1, 0, 3, list(4, 2, 1, 3, 6, 5, 7), api.OK}, // three blades
		{3, 50, 50, 200, list(1, 2, 3), api.OK},
		{3, -1, 0, 0, nil, api.ErrRange},
		{3, 0, -1, 0, nil, api.ErrRange},
		{3, 51, 0, 0, nil, api.ErrRange},
		{3, 0, 51, 0, nil, api.ErrRange},
		{13, 0, 0, 0, nil, api.ErrRange},
		{-1, 0, 0, 0, nil, api.ErrRange},
	} {
		n, e := trial.Price(x.levels, x.trial, x.blade)
		plan, f := trial.Cheap(x.levels, x.trial, x.blade)
		if n != x.price || e != x.e || !slices.Equal(plan, x.plan) || f != x.e {
			t.Errorf("%d: %d with error %d, %v with error %d", i, n, e, plan, f)
		}
	}
}
