package mule_test

import (
	"testing"

	"novaculite/api"
	"novaculite/mule"
)

// The tests of this file are the rows of the chapter's table of examples.

func TestExampleFirst(t *testing.T) {
	l, e := mule.First(caravanC())
	wantList(t, "First of C", l, e, list(0, 1, 2), api.OK)
	l, e = mule.First(caravanD())
	wantList(t, "First of D", l, e, list(0, 1), api.OK)
	n, e := mule.Count(caravanC())
	wantNumber(t, "Count of C", n, e, 3, api.OK)
	n, e = mule.Count(caravanD())
	wantNumber(t, "Count of D", n, e, 2, api.OK)
}

func TestExampleValid(t *testing.T) {
	wantErrno(t, "Valid of C: 1 0 2", mule.Valid(caravanC(), list(1, 0, 2)), api.OK)
	wantErrno(t, "Valid of C: 2 0 1", mule.Valid(caravanC(), list(2, 0, 1)), api.ErrOpen)
	wantErrno(t, "Valid of C: 1 0", mule.Valid(caravanC(), list(1, 0)), api.ErrShape)
	wantErrno(t, "Valid of C: 1 1 0", mule.Valid(caravanC(), list(1, 1, 0)), api.ErrTwice)
	wantErrno(t, "Valid of C: 1 0 3", mule.Valid(caravanC(), list(1, 0, 3)), api.ErrNone)
}

func TestExampleArrivals(t *testing.T) {
	wantTruth(t, caravanC(), list(1, 0, 2), list(3, 2, 1), list(5, 2, 6), list(0, 0, 1), 1, api.OK)
	wantTruth(t, caravanC(), list(1, 0, 2), list(3, 2), nil, nil, 0, api.ErrMany)
	wantTruth(t, caravanC(), list(1, 0, 2), list(5, 2, 1), nil, nil, 0, api.ErrRange)
}

func wantTruth(t *testing.T, c mule.Caravan, order, days, arrive, costs []int, cost int, wantE api.Errno) {
	t.Helper()
	l, e := mule.Arrivals(c, order, days)
	wantList(t, "Arrivals", l, e, arrive, wantE)
	l, e = mule.Costs(c, order, days)
	wantList(t, "Costs", l, e, costs, wantE)
	n, e := mule.Cost(c, order, days)
	wantNumber(t, "Cost", n, e, cost, wantE)
}

func TestExampleBest(t *testing.T) {
	wantBests(t, caravanC(), 2, list(1, 0, 2), list(1, 0, 2), 1)
	wantBests(t, caravanD(), 2, list(0, 1), list(0, 1), 2)
}

func wantBests(t *testing.T, c mule.Caravan, least int, rule, best []int, bests int) {
	t.Helper()
	n, e := mule.Least(c)
	wantNumber(t, "Least", n, e, least, api.OK)
	l, e := mule.Rule(c)
	wantList(t, "Rule", l, e, rule, api.OK)
	l, e = mule.Best(c)
	wantList(t, "Best", l, e, best, api.OK)
	n, e = mule.Bests(c)
	wantNumber(t, "Bests", n, e, bests, api.OK)
}

func TestExampleBound(t *testing.T) {
	for _, x := range []struct {
		group []int
		want  int
		wantE api.Errno
	}{
		{list(0, 1), 2, api.OK},
		{list(0, 1, 2), 1, api.OK},
		{list(2), 1, api.OK},
		{nil, 0, api.ErrEmpty},
		{list(1, 0), 0, api.ErrOrder},
		{list(3), 0, api.ErrNone},
	} {
		n, e := mule.Bound(caravanC(), x.group)
		wantNumber(t, "Bound of C", n, e, x.want, x.wantE)
	}
	l, e := mule.Why(caravanC())
	wantList(t, "Why of C", l, e, list(0, 1), api.OK)
	l, e = mule.Why(caravanD())
	wantList(t, "Why of D", l, e, list(0, 1), api.OK)
}

func TestExampleProves(t *testing.T) {
	wantErrno(t, "Proves of C: 2 by 0 1", mule.Proves(caravanC(), 2, list(0, 1)), api.OK)
	wantErrno(t, "Proves of C: 3 by 0 1", mule.Proves(caravanC(), 3, list(0, 1)), api.ErrProof)
	wantErrno(t, "Proves of C: 1 by 2", mule.Proves(caravanC(), 1, list(2)), api.OK)
}

func TestExampleLate(t *testing.T) {
	for _, x := range []struct {
		snow, want int
		wantE      api.Errno
	}{
		{6, 2, api.OK},
		{9, 0, api.ErrClash},
		{5, 0, api.OK},
		{55, 0, api.ErrRange},
	} {
		n, e := mule.Late(caravanC(), list(1, 0, 2), x.snow)
		wantNumber(t, "Late of C by 1 0 2", n, e, x.want, x.wantE)
	}
	for _, x := range []struct{ snow, want int }{{6, 2}, {1, 0}, {9, 3}, {3, 1}} {
		n, e := mule.Saved(caravanC(), x.snow)
		wantNumber(t, "Saved of C", n, e, x.want, api.OK)
	}
}

func TestExampleLatest(t *testing.T) {
	l, e := mule.Latest(caravanC(), 1)
	wantList(t, "Latest of C: 1", l, e, list(5, 4, 9), api.OK)
	l, e = mule.Latest(caravanC(), 0)
	wantList(t, "Latest of C: 0", l, e, list(5, 3, -1), api.OK)
	l, e = mule.Latest(caravanC(), -1)
	wantList(t, "Latest of C: -1", l, e, nil, api.ErrRange)
}

func TestExampleCheck(t *testing.T) {
	d := caravanD().Loads
	wantErrno(t, "Check of no loads", mule.Check(caravan(nil)), api.ErrEmpty)
	wantErrno(t, "Check of 1 0 0 0 0", mule.Check(caravan(loads(1, 0, 0, 0, 0))), api.ErrRange)
	wantErrno(t, "Check of 2 1 0 0 0", mule.Check(caravan(loads(2, 1, 0, 0, 0))), api.ErrOrder)
	wantErrno(t, "Check of D with 0 1, 1 0", mule.Check(caravan(d, 0, 1, 1, 0)), api.ErrClash)
	wantErrno(t, "Check of D with 0 2", mule.Check(caravan(d, 0, 2)), api.ErrNone)
	wantErrno(t, "Check of D with 0 1, 0 1", mule.Check(caravan(d, 0, 1, 0, 1)), api.ErrTwice)
	wantErrno(t, "Check of D with 0 0", mule.Check(caravan(d, 0, 0)), api.ErrClash)
}
