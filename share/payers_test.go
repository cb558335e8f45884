package share_test

import (
	"math/rand/v2"
	"slices"
	"testing"

	"novaculite/api"
	"novaculite/drain"
	"novaculite/share"
)

func TestPlans(t *testing.T) { // P10.4
	square := hill(2, 0, 1, 1, 1, 0, 1, 0, 2, 4, 1, 2, 4) // each gallery can drain by the other one
	for _, x := range []struct {
		h       drain.Hill
		planned []int
		plans   int
	}{
		{square, list(1, 4), 2},
		{fork(), list(1, 1, 1), 1}, // of two cheapest plans
		{poor(), list(0, 0, 1), 1}, // of two
		{hill(1, 0, 1, 0), list(0), 1},
		{hill(3, 0, 3, 2, 1, 3, 2, 2, 3, 2, 0, 1, 0, 1, 0, 0, 1, 2, 0, 2, 1, 0), list(2, 0, 0), 3},
		{hill(3, 0, 1, 3, 1, 0, 2, 0, 3, 6, 1, 3, 5, 2, 3, 4, 2, 0, 4), list(3, 5, 4), 2}, // of four
	} {
		l, e := share.Planned(x.h)
		wantList(t, "Planned", l, e, x.planned, api.OK)
		n, e := share.Plans(x.h)
		wantValue(t, "Plans", n, e, x.plans, api.OK)
	}
}

func TestPlansOfRandomHills(t *testing.T) { // P10.4
	several, fewer := 0, 0
	forHills(500, func(_ *rand.Rand, h drain.Hill, _ []int) {
		l, e := share.Planned(h)
		wantList(t, "Planned", l, e, payments(h, firstPlanOf(h)), api.OK)
		splits := planSplitsOf(h)
		n, e := share.Plans(h)
		wantValue(t, "Plans", n, e, len(splits), api.OK)
		if n > 1 {
			several++
		}
		if plans, _ := drain.Equal(h); n > 1 && n < plans {
			fewer++
		}
	})
	if several == 0 || fewer == 0 {
		t.Errorf("%d hills with several splits, %d of them with more plans", several, fewer)
	}
}

func TestPaidErrors(t *testing.T) { // P10.5
	for _, x := range []struct {
		h      drain.Hill
		payers []int
		want   api.Errno
	}{
		{hillH(), nil, api.ErrShape},
		{hillH(), list(0, 1, 0, 2, 0), api.ErrShape},
		{hillH(), list(-1), api.ErrShape},
		{hillH(), make([]int, 1000), api.ErrShape},
		{hill(1, 0, 1, 0), list(0), api.ErrShape},
		{hillH(), list(1, 1, 0, 2), api.ErrNone}, // a gallery, but not of its group
		{hillH(), list(0, 1, 0, 3), api.ErrNone},
		{hillH(), list(0, 1, 0, -1), api.ErrNone},
		{hillH(), list(0, 1, greatest, 2), api.ErrNone},
		{hillH(), list(smallest, 1, 0, 2), api.ErrNone},
	} {
		l, e := share.Paid(x.h, x.payers)
		wantList(t, "Paid", l, e, nil, x.want)
	}
}

func TestPaid(t *testing.T) { // P10.5
	for _, x := range []struct {
		h            drain.Hill
		payers, want []int
	}{
		{hillH(), list(0, 1, 1, 2), list(1, 4, 2)},
		{hillM(), list(0, 1), list(2, 3)},
		{hill(1, 0, 1, 0), nil, list(0)},
		{hill(2, 0, 1, 0, 1, 0, 4, 0, 2, 7, 1, 2, 9), list(1, 1), list(0, 9)}, // 1 pays 4, 0 1 pay 5
		{hill(2, 0, 1, 0, 1, 0, 4, 0, 2, 7, 1, 2, 9), list(1, 0), list(5, 4)},
	} {
		l, e := share.Paid(x.h, x.payers)
		wantList(t, "Paid", l, e, x.want, api.OK)
	}
}

func TestBounds(t *testing.T) { // P10.5
	uneven := hill(2, 0, 1, 0, 1, 0, 4, 0, 2, 7, 1, 2, 9) // 1 pays 4, 0 1 pay 5
	wantBounds(t, uneven, 0, [2]int{0, 5}, api.OK)
	wantBounds(t, uneven, 1, [2]int{4, 9}, api.OK)
	wantBounds(t, hill(1, 0, 1, 0), 0, [2]int{}, api.OK)
	for _, gallery := range list(smallest, -1, 3, 6, greatest) {
		wantBounds(t, hillH(), gallery, [2]int{}, api.ErrNone)
	}
}

func TestDuesOfRandomHills(t *testing.T) { // P10.5
	forHills(300, func(r *rand.Rand, h drain.Hill, _ []int) {
		dues, _ := drain.Dues(h)
		payers := randomPayers(r, h)
		want := make([]int, h.Galleries)
		low, high := slices.Clone(want), slices.Clone(want)
		for i, d := range dues {
			want[payers[i]] += d.Pay
			for _, g := range d.Group {
				high[g] += d.Pay
				if slices.Equal(d.Group, list(g)) {
					low[g] += d.Pay
				}
			}
		}
		l, e := share.Paid(h, payers)
		wantList(t, "Paid", l, e, want, api.OK)
		for g := range h.Galleries {
			wantBounds(t, h, g, [2]int{low[g], high[g]}, api.OK)
		}
		if len(payers) > 0 {
			i := r.IntN(len(payers))
			payers[i] = anyOf(r, edges())
			_, e = share.Paid(h, payers)
			wantErrno(t, "Paid", e, errorUnless(slices.Contains(dues[i].Group, payers[i]), api.ErrNone))
		}
	})
}
