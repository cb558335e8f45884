package share_test

import (
	"math/rand/v2"
	"slices"
	"testing"

	"novaculite/api"
	"novaculite/drain"
	"novaculite/share"
)

func TestBend(t *testing.T) { // P10.8
	for _, x := range []struct {
		h        drain.Hill
		one, two []int
	}{
		{hill(1, 0, 1, 7), nil, nil},
		{hillM(), nil, nil},
		{large(), list(0, 1), list(0, 3, 4)},
		{fork(), list(0, 1), list(0, 2)},      // 0 cannot drain alone
		{poor(), list(0, 2), list(1, 2)},      // 1 and 9 are more than 1 and 1
		{hill(2, 0, 2, 1, 1, 0, 1), nil, nil}, // no gallery is in 0 and in others that can drain alone
		{hill(4, 0, 1, 1, 0, 2, 1, 0, 3, 1, 1, 4, 1, 2, 4, 1, 3, 4, 1), list(0, 1), list(0, 2)},
		{hill(4, 3, 1, 1, 3, 2, 1, 0, 4, 1, 1, 4, 1, 2, 4, 1), list(0, 1, 3), list(0, 2, 3)},
	} {
		wantBend(t, x.h, x.one, x.two, errorUnless(x.one != nil, api.ErrClash))
		is, e := share.Smooth(x.h)
		wantValue(t, "Smooth", is, e, x.one == nil, api.OK)
	}
}

func TestBendOfRandomHills(t *testing.T) { // P10.8
	seen := map[string]int{}
	forHills(500, func(_ *rand.Rand, h drain.Hill, costs []int) {
		bends := bendsOf(h.Galleries, costs)
		is, e := share.Smooth(h)
		wantValue(t, "Smooth", is, e, len(bends) == 0, api.OK)
		if len(bends) == 0 {
			wantBend(t, h, nil, nil, api.ErrClash)
			seen["none"]++
			return
		}
		one, two := bends[0][0], bends[0][1]
		wantBend(t, h, one, two, api.OK)
		if costs[bitsOf(one)&bitsOf(two)] < 0 {
			seen["lost"]++
		} else {
			seen["dear"]++
		}
		if !slices.Equal(one, list(0, 1)) {
			seen["later"]++
		}
	})
	if len(seen) != 4 {
		t.Errorf("bends: %v", seen)
	}
}
