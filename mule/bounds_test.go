package mule_test

import (
	"math/rand/v2"
	"testing"

	"novaculite/api"
	"novaculite/mule"
)

func wantBound(t *testing.T, c mule.Caravan, group []int, want int) {
	t.Helper()
	n, e := mule.Bound(c, group)
	wantNumber(t, "Bound", n, e, want, api.OK)
	for _, cost := range list(smallest, -1, 0, want-1, want, want+1, greatest) {
		wantErrno(t, "Proves", mule.Proves(c, cost, group), errorUnless(cost <= want, api.ErrProof))
	}
}

func TestGroupErrors(t *testing.T) { // P11.6, R1
	for _, x := range []struct {
		group []int
		want  api.Errno
	}{
		{nil, api.ErrEmpty},
		{list(3), api.ErrNone},
		{list(-1), api.ErrNone},
		{list(greatest), api.ErrNone},
		{list(smallest), api.ErrNone},
		{list(0, 1, 2, 3), api.ErrNone},
		{list(0, 3, 1), api.ErrNone},
		{list(1, -1), api.ErrNone},
		{list(1, 1), api.ErrOrder},
		{list(0, 2, 1), api.ErrOrder},
		{list(1, 0, 3), api.ErrOrder},
		{list(0, 1, 2, 2), api.ErrOrder},
		{make([]int, 1000), api.ErrOrder},
	} {
		n, e := mule.Bound(caravanC(), x.group)
		wantNumber(t, "Bound", n, e, 0, x.want)
		for _, cost := range edges() {
			wantErrno(t, "Proves", mule.Proves(caravanC(), cost, x.group), x.want)
		}
	}
}

func TestBounds(t *testing.T) { // P11.6
	ring := caravan(caravanC().Loads, 2, 1, 1, 0)
	for _, x := range []struct {
		c     mule.Caravan
		group []int
		want  int
	}{
		{caravanC(), list(0), 0},
		{caravanC(), list(0, 2), 1},
		{caravanC(), list(1, 2), 1},
		{ring, list(0, 2), 4}, // 2 goes before 0 over 1, which is not one of them
		{ring, list(1, 2), 2},
		{ring, list(0, 1, 2), 8},
		{alike(1), list(0), 0},
		{long(), list(0, 1, 2, 3, 4, 5), 506},
		{long(), list(5), 101},
		{caravan(loads(1, 5, 2, 3, 1, 1, 4, 9, 1, 20)), list(0), 10},
		{caravan(loads(1, 5, 2, 3, 1, 1, 4, 9, 1, 20)), list(0, 1), 20},
	} {
		wantBound(t, x.c, x.group, x.want)
	}
}

func TestWhy(t *testing.T) { // P11.6
	for _, x := range []struct {
		c    mule.Caravan
		want []int
	}{
		{alike(6), list(0)},
		{alike(2, 1, 0), list(0)},
		{long(), list(0, 1, 2, 3, 4, 5)},
		{caravan(caravanC().Loads, 2, 1, 1, 0), list(0, 1, 2)},
		{caravan(loads(1, 1, 0, 0, 5, 1, 1, 0, 0, 7, 1, 1, 0, 0, 7)), list(1)}, // so is 2
		{caravan(loads(1, 1, 0, 1, 0, 1, 1, 0, 0, 0, 1, 1, 0, 1, 0)), list(0, 2)},
		{caravan(loads(1, 1, 9, 0, 0, 3, 3, 1, 1, 0, 2, 2, 0, 1, 0)), list(1, 2)},
		{caravan(loads(1, 3, 0, 1, 0, 1, 1, 0, 0, 0, 1, 1, 0, 0, 3)), list(0)}, // so is 2
	} {
		l, e := mule.Why(x.c)
		wantList(t, "Why", l, e, x.want, api.OK)
	}
}

func TestBoundsOfRandomCaravans(t *testing.T) { // P11.6
	lengths := map[int]int{}
	forCaravans(120, func(r *rand.Rand, c mule.Caravan) {
		group := anyOf(r, groupsOf(len(c.Loads)))
		wantBound(t, c, group, boundOf(c, group))
		_, least := bestsOf(c)
		why := whyOf(c, least)
		l, e := mule.Why(c)
		wantList(t, "Why", l, e, why, api.OK)
		lengths[len(why)]++
	})
	if len(lengths) != mule.MaxLoads {
		t.Errorf("lengths of Why: %v", lengths)
	}
}
