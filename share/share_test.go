package share_test

import (
	"testing"

	"novaculite/api"
	"novaculite/drain"
	"novaculite/share"
)

func TestHillErrorsComeFirst(t *testing.T) { // P10.1, R2
	for i, x := range []struct {
		h    drain.Hill
		want api.Errno
	}{
		{hill(0), api.ErrRange},
		{hill(7), api.ErrRange},
		{hill(greatest), api.ErrRange},
		{hill(smallest), api.ErrRange},
		{drain.Hill{Galleries: 1, Channels: make([][3]int, 15)}, api.ErrMany},
		{hill(1, 0, 2, 1), api.ErrNone},
		{hill(1, 0, 0, 1), api.ErrClash},
		{hill(2, 0, 2, 1, 1, 2, 1, 0, 0, 1), api.ErrClash}, // it would drain
		{hill(1, 0, 1, 21), api.ErrRange},
		{hill(1, 0, 1, -1), api.ErrRange},
		{hill(1, 0, 1, 1, 0, 1, 1), api.ErrTwice},
	} {
		for _, a := range []told{
			{h: x.h, gallery: -1},
			{x.h, list(0), list(1), list(0), list(0), 0},
		} {
			for _, got := range answers(a) {
				if got.e != x.want || !got.isNothing() {
					t.Errorf("hill %d: %v, want error %d", i, got, x.want)
				}
			}
		}
	}
}

func TestHillsThatDoNotDrain(t *testing.T) { // P10.1, P10.2
	for i, h := range []drain.Hill{hillK(), hill(2), hill(2, 0, 2, 1), hill(6), hill(2, 0, 1, 1, 1, 0, 1)} {
		for _, a := range []told{
			{h: h, gallery: -1}, // all other arguments are wrong, too
			{h, list(0), list(0, 0), nil, list(0, 1), 0},
		} {
			for _, got := range answers(a)[3:] {
				if got.e != api.ErrLost || !got.isNothing() {
					t.Errorf("hill %d: %v, want error %d", i, got, api.ErrLost)
				}
			}
		}
	}
	l, e := share.Costs(hillK())
	wantList(t, "Costs of K", l, e, list(-1, -1, -1), api.OK)
	l, e = share.Costs(hill(2, 0, 2, 7))
	wantList(t, "Costs of a hill with one dry gallery", l, e, list(7, -1, -1), api.OK)
	sub, e := share.Sub(hillK(), list(0, 1))
	wantHill(t, "Sub of K: 0 1", sub, e, hillK(), api.OK)
	n, e := share.Alone(hill(2, 0, 2, 7), list(0))
	wantValue(t, "Alone", n, e, 7, api.OK)
}

func TestGroupErrors(t *testing.T) { // P10.1
	for i, x := range []struct {
		group []int
		want  api.Errno
	}{
		{nil, api.ErrEmpty},
		{list(3), api.ErrNone},
		{list(-1), api.ErrNone},
		{list(greatest), api.ErrNone},
		{list(smallest), api.ErrNone},
		{list(0, 3, 1), api.ErrNone},
		{list(1, 1), api.ErrOrder},
		{list(1, 0, 3), api.ErrOrder},
		{list(2, 3), api.ErrNone}, // the mouth is no gallery
		{make([]int, 1000), api.ErrOrder},
	} {
		for _, h := range []drain.Hill{hillH(), hill(3)} {
			sub, e := share.Sub(h, x.group)
			wantHill(t, "Sub", sub, e, drain.Hill{}, x.want)
			n, e := share.Alone(h, x.group)
			wantValue(t, "Alone", n, e, 0, x.want)
			if t.Failed() {
				t.Fatalf("group %d", i)
			}
		}
	}
}

func TestSub(t *testing.T) { // P10.1
	for _, x := range []struct {
		h     drain.Hill
		group []int
		want  drain.Hill
	}{
		{hillH(), list(1), hill(1, 0, 1, 4)},
		{hillH(), list(1, 2), hill(2, 0, 2, 4, 1, 0, 2, 1, 2, 3)},
		{hillM(), list(0), hill(1)},
		{hillK(), list(1), hill(1)},
		{hill(4, 3, 1, 7, 1, 4, 2, 2, 4, 2, 1, 3, 5, 3, 0, 1, 3, 4, 0), list(1, 3), hill(2, 1, 0, 7, 0, 2, 2, 0, 1, 5, 1, 2, 0)},
		{hill(6, 5, 6, 1, 4, 5, 2), list(4, 5), hill(2, 1, 2, 1, 0, 1, 2)},
	} {
		sub, e := share.Sub(x.h, x.group)
		wantHill(t, "Sub", sub, e, x.want, api.OK)
	}
}

func TestCosts(t *testing.T) { // P10.1
	for _, x := range []struct {
		h    drain.Hill
		want []int
	}{
		{hill(1), list(-1)},
		{hill(1, 0, 1, 0), list(0)},
		{fork(), list(-1, 1, 2, 1, 2, 2, 3)},
		{poor(), list(0, 0, 0, 9, 1, 1, 1)},
		{hill(2, 0, 2, 20, 1, 2, 20, 0, 1, 20), list(20, 20, 40)},
	} {
		l, e := share.Costs(x.h)
		wantList(t, "Costs", l, e, x.want, api.OK)
	}
}

func TestGroupsOfRandomHills(t *testing.T) { // P10.1
	r := newRandom()
	lost := 0
	for range 400 {
		h := randomHill(r)
		costs := costsOf(h)
		l, e := share.Costs(h)
		wantList(t, "Costs", l, e, costs[1:], api.OK)
		for bits, cost := range costs[1:] {
			group := listOf(bits + 1)
			sub, e := share.Sub(h, group)
			wantHill(t, "Sub", sub, e, subOf(h, group), api.OK)
			n, e := share.Alone(h, group)
			if cost < 0 {
				lost++
			}
			wantValue(t, "Alone", n, e, max(cost, 0), errorUnless(cost >= 0, api.ErrLost))
		}
	}
	if lost == 0 {
		t.Error("all groups could drain alone")
	}
}
