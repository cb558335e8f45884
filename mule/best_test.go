package mule_test

import (
	"math/rand/v2"
	"slices"
	"testing"

	"novaculite/mule"
)

func TestBests(t *testing.T) { // P11.5
	for _, x := range []struct {
		c          mule.Caravan
		least      int
		rule, best []int
		bests      int
	}{
		{alike(1), 0, list(0), list(0), 1},
		{alike(6), 0, list(0, 1, 2, 3, 4, 5), list(0, 1, 2, 3, 4, 5), 720},
		{long(), 506, list(0, 1, 2, 3, 4, 5), list(0, 1, 2, 3, 4, 5), 720},
		{full(), 71, list(5, 4, 3, 2, 1, 0), list(5, 4, 3, 2, 1, 0), 1},
		{alike(3, 2, 0), 0, list(2, 0, 1), list(1, 2, 0), 3},
		{alike(4, 3, 0), 0, list(3, 0, 1, 2), list(1, 2, 3, 0), 12},
		{caravan(loads(9, 9, 54, 0, 20)), 20, list(0), list(0), 1},
		// if they took their fewest days, the load 0 would be the cheaper one at the end
		{caravan(loads(1, 5, 3, 1, 0, 1, 1, 0, 0, 2)), 2, list(0, 1), list(0, 1), 1},
		// the load 0 costs less at the end than the others, which are alike
		{caravan(loads(1, 1, 1, 1, 0, 1, 1, 0, 1, 0, 1, 1, 0, 1, 0)), 2, list(1, 2, 0), list(1, 2, 0), 2},
		// where one load costs most in each place, all orders are best
		{caravan(loads(1, 1, 0, 0, 9, 1, 1, 2, 1, 0, 1, 1, 1, 1, 0)), 9, list(0, 2, 1), list(0, 1, 2), 6},
	} {
		wantBests(t, x.c, x.least, x.rule, x.best, x.bests)
	}
}

func TestBestsOfRandomCaravans(t *testing.T) { // P11.5
	others, several, all := 0, 0, 0
	forCaravans(150, func(_ *rand.Rand, c mule.Caravan) {
		bests, least := bestsOf(c)
		rule := ruleOf(c)
		wantBests(t, c, least, rule, bests[0], len(bests))
		if !slices.Equal(rule, bests[0]) {
			others++
		}
		if len(bests) > 1 {
			several++
		}
		if len(bests) > 1 && len(bests) == len(ordersOf(c)) {
			all++
		}
	})
	if others < 50 || several == all || all == 0 {
		t.Errorf("%d caravans whose rule is not the first, %d with several best orders, %d of them all", others, several, all)
	}
}
