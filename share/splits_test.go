package share_test

import (
	"math/rand/v2"
	"testing"

	"novaculite/api"
	"novaculite/drain"
	"novaculite/share"
)

func TestValid(t *testing.T) { // P10.2
	for i, x := range []struct {
		h     drain.Hill
		split []int
		want  api.Errno
	}{
		{hillH(), list(7, 0, 0), api.OK},
		{hillH(), list(0, 0, 7), api.OK},
		{hillM(), list(0, 5), api.OK},
		{hill(1, 0, 1, 0), list(0), api.OK},
		{hill(1, 0, 1, 0), list(1), api.ErrSum},
		{hillH(), nil, api.ErrShape},
		{hillH(), list(7), api.ErrShape},
		{hillH(), list(1, 4, 2, 0), api.ErrShape},
		{hillH(), list(281, -1), api.ErrShape},
		{hillH(), make([]int, 1000), api.ErrShape},
		{hillH(), list(0, 0, 280), api.ErrSum},
		{hillH(), list(0, 0, 281), api.ErrRange},
		{hillH(), list(8, 0, -1), api.ErrRange},
		{hillH(), list(-1, 8, 0), api.ErrRange},
		{hillH(), list(greatest, smallest, 8), api.ErrRange},
		{hillH(), list(0, smallest, 0), api.ErrRange},
		{hillH(), list(1, 4, 1), api.ErrSum},
		{hillH(), list(0, 0, 0), api.ErrSum},
	} {
		for _, got := range answers(told{h: x.h, split: x.split, group: list(0, 9)})[3:8] {
			switch {
			case x.want != api.OK && (got.e != x.want || !got.isNothing()):
				t.Errorf("split %d: %v, want error %d", i, got, x.want)
			case x.want == api.OK && got.of == "Valid":
				wantErrno(t, "Valid", got.e, api.OK)
			case x.want == api.OK && (got.of == "Over" || got.of == "Proves"):
				wantErrno(t, got.of, got.e, api.ErrNone) // of the group
			}
		}
	}
}

func TestOverErrors(t *testing.T) { // P10.3
	for _, x := range []struct {
		h            drain.Hill
		split, group []int
		want         api.Errno
	}{
		{hillH(), list(1, 4, 2), nil, api.ErrEmpty},
		{hillH(), list(1, 4, 2), list(-1), api.ErrNone},
		{hillH(), list(1, 4, 2), list(0, 2, 2), api.ErrOrder},
		{hillH(), list(1, 4, 3), nil, api.ErrSum}, // the split is examined first
		{hillM(), list(2, 3), list(0), api.ErrLost},
		{hillM(), list(2, 3), list(0, 0), api.ErrOrder},
		{fork(), list(3, 0, 0), list(0), api.ErrLost},
	} {
		n, e := share.Over(x.h, x.split, x.group)
		wantValue(t, "Over", n, e, 0, x.want)
		wantErrno(t, "Proves", share.Proves(x.h, x.split, x.group), x.want)
	}
}

func TestWhy(t *testing.T) { // P10.3
	for _, x := range []struct {
		h           drain.Hill
		split, want []int
	}{
		{hillM(), list(5, 0), nil}, // 0 cannot drain alone
		{hillM(), list(4, 1), nil},
		{hillM(), list(1, 4), list(1)},
		{fork(), list(3, 0, 0), list(0, 1)}, // so is 0 2
		{fork(), list(0, 1, 2), list(1, 2)}, // so is 2
		{hillH(), list(0, 5, 2), list(1)},   // so are 1 2, and 0 1 less
		{hill(2, 0, 2, 1, 1, 2, 1), list(2, 0), list(0)},
		{hill(3, 0, 3, 1, 1, 3, 1, 2, 3, 1, 1, 0, 0, 0, 1, 0), list(0, 2, 0), list(0, 1)}, // so is 1
		{hill(1, 0, 1, 5), list(5), nil},
	} {
		l, e := share.Why(x.h, x.split)
		wantList(t, "Why", l, e, x.want, errorUnless(x.want != nil, api.ErrClash))
		is, e := share.Steady(x.h, x.split)
		wantValue(t, "Steady", is, e, x.want == nil, api.OK)
	}
}

func wantSplit(t *testing.T, h drain.Hill, costs, split []int) (steady bool) {
	t.Helper()
	wantErrno(t, "Valid", share.Valid(h, split), api.OK)
	why := whyOf(costs, split)
	is, e := share.Steady(h, split)
	wantValue(t, "Steady", is, e, why == nil, api.OK)
	l, e := share.Why(h, split)
	wantList(t, "Why", l, e, why, errorUnless(why != nil, api.ErrClash))
	return why == nil
}

func TestRandomSplits(t *testing.T) { // P10.2, P10.3
	steady := 0
	forHills(300, func(r *rand.Rand, h drain.Hill, costs []int) {
		for range 3 {
			split := randomSplit(r, h)
			if wantSplit(t, h, costs, split) {
				steady++
			}
			for _, group := range groupsOf(h.Galleries) {
				n, e := share.Over(h, split, group)
				if costs[bitsOf(group)] < 0 {
					wantValue(t, "Over", n, e, 0, api.ErrLost)
					continue
				}
				wantValue(t, "Over", n, e, overOf(costs, split, group), api.OK)
			}
			split[r.IntN(h.Galleries)]++
			wantErrno(t, "Valid", share.Valid(h, split), api.ErrSum)
		}
	})
	if steady < 100 || steady > 800 {
		t.Errorf("%d steady splits", steady)
	}
}
