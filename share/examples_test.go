package share_test

import (
	"testing"

	"novaculite/api"
	"novaculite/drain"
	"novaculite/share"
)

// The tests of this file are the rows of the chapter's table of examples.

func TestExampleSubAndAlone(t *testing.T) {
	sub, e := share.Sub(hillH(), list(0, 2))
	wantHill(t, "Sub of H: 0 2", sub, e, hill(2, 0, 2, 5, 1, 2, 3), api.OK)
	n, e := share.Alone(hillH(), list(0, 1))
	wantValue(t, "Alone of H: 0 1", n, e, 5, api.OK)
	n, e = share.Alone(hillH(), list(1, 2))
	wantValue(t, "Alone of H: 1 2", n, e, 6, api.OK)
	n, e = share.Alone(hillM(), list(0))
	wantValue(t, "Alone of M: 0", n, e, 0, api.ErrLost)
	n, e = share.Alone(hillH(), nil)
	wantValue(t, "Alone of H: none", n, e, 0, api.ErrEmpty)
	n, e = share.Alone(hillH(), list(1, 0))
	wantValue(t, "Alone of H: 1 0", n, e, 0, api.ErrOrder)
}

func TestExampleCosts(t *testing.T) {
	l, e := share.Costs(hillH())
	wantList(t, "Costs of H", l, e, list(5, 4, 5, 3, 8, 6, 7), api.OK)
	l, e = share.Costs(hillM())
	wantList(t, "Costs of M", l, e, list(-1, 3, 5), api.OK)
}

func TestExampleValid(t *testing.T) {
	wantErrno(t, "Valid of H: 1 4 2", share.Valid(hillH(), list(1, 4, 2)), api.OK)
	wantErrno(t, "Valid of H: 1 4", share.Valid(hillH(), list(1, 4)), api.ErrShape)
	wantErrno(t, "Valid of H: 1 4 3", share.Valid(hillH(), list(1, 4, 3)), api.ErrSum)
	wantErrno(t, "Valid of H: 281 0 0", share.Valid(hillH(), list(281, 0, 0)), api.ErrRange)
}

func TestExampleOver(t *testing.T) {
	n, e := share.Over(hillH(), list(5, 2, 0), list(0, 1))
	wantValue(t, "Over of H by 5 2 0: 0 1", n, e, 2, api.OK)
	n, e = share.Over(hillH(), list(5, 2, 0), list(2))
	wantValue(t, "Over of H by 5 2 0: 2", n, e, -3, api.OK)
	n, e = share.Over(hillM(), list(0, 5), list(0))
	wantValue(t, "Over of M by 0 5: 0", n, e, 0, api.ErrLost)
	is, e := share.Steady(hillH(), list(1, 4, 2))
	wantValue(t, "Steady of H: 1 4 2", is, e, true, api.OK)
	is, e = share.Steady(hillH(), list(5, 2, 0))
	wantValue(t, "Steady of H: 5 2 0", is, e, false, api.OK)
}

func TestExampleWhy(t *testing.T) {
	l, e := share.Why(hillH(), list(5, 2, 0))
	wantList(t, "Why of H: 5 2 0", l, e, list(0, 1), api.OK)
	l, e = share.Why(hillH(), list(1, 4, 2))
	wantList(t, "Why of H: 1 4 2", l, e, nil, api.ErrClash)
	wantErrno(t, "Proves of H by 5 2 0: 0 1", share.Proves(hillH(), list(5, 2, 0), list(0, 1)), api.OK)
	wantErrno(t, "Proves of H by 5 2 0: 0", share.Proves(hillH(), list(5, 2, 0), list(0)), api.ErrProof)
	wantErrno(t, "Proves of H by 5 2 0: 0 3", share.Proves(hillH(), list(5, 2, 0), list(0, 3)), api.ErrNone)
}

func TestExamplePlans(t *testing.T) {
	l, e := share.Planned(hillH())
	wantList(t, "Planned of H", l, e, list(1, 4, 2), api.OK)
	l, e = share.Planned(hillM())
	wantList(t, "Planned of M", l, e, list(2, 3), api.OK)
	n, e := share.Plans(hillH())
	wantValue(t, "Plans of H", n, e, 1, api.OK)
}

func TestExamplePaid(t *testing.T) {
	l, e := share.Paid(hillH(), list(0, 1, 0, 2))
	wantList(t, "Paid of H by 0 1 0 2", l, e, list(4, 1, 2), api.OK)
	l, e = share.Paid(hillH(), list(0, 1, 2, 2))
	wantList(t, "Paid of H by 0 1 2 2", l, e, nil, api.ErrNone)
	l, e = share.Paid(hillH(), list(0, 1, 0))
	wantList(t, "Paid of H by 0 1 0", l, e, nil, api.ErrShape)
	wantBounds(t, hillH(), 0, [2]int{1, 4}, api.OK)
	wantBounds(t, hillH(), 2, [2]int{2, 2}, api.OK)
	wantBounds(t, hillH(), 3, [2]int{}, api.ErrNone)
}

func wantBounds(t *testing.T, h drain.Hill, gallery int, want [2]int, wantE api.Errno) {
	t.Helper()
	low, high, e := share.Bounds(h, gallery)
	wantValue(t, "Bounds", [2]int{low, high}, e, want, wantE)
}

func TestExampleJoins(t *testing.T) {
	for gallery, want := range list(1, -1, 2) {
		n, e := share.Joins(hillH(), gallery)
		wantValue(t, "Joins of H", n, e, want, api.OK)
	}
	n, e := share.Joins(hillM(), 0)
	wantValue(t, "Joins of M: 0", n, e, 2, api.OK)
	n, e = share.Joins(hillM(), 1)
	wantValue(t, "Joins of M: 1", n, e, 0, api.ErrLost)
}

func TestExampleMarginal(t *testing.T) {
	l, e := share.Marginal(hillH(), list(0, 1, 2))
	wantList(t, "Marginal of H: 0 1 2", l, e, list(5, 0, 2), api.OK)
	l, e = share.Marginal(hillH(), list(2, 0, 1))
	wantList(t, "Marginal of H: 2 0 1", l, e, list(5, -1, 3), api.OK)
	l, e = share.Marginal(hillH(), list(0, 1))
	wantList(t, "Marginal of H: 0 1", l, e, nil, api.ErrShape)
	l, e = share.Marginal(hillH(), list(0, 0, 1))
	wantList(t, "Marginal of H: 0 0 1", l, e, nil, api.ErrTwice)
	l, e = share.Marginal(hillM(), list(0, 1))
	wantList(t, "Marginal of M: 0 1", l, e, nil, api.ErrLost)
	l, e = share.Marginal(hillM(), list(1, 0))
	wantList(t, "Marginal of M: 1 0", l, e, list(2, 3), api.OK)
}

func TestExampleAverage(t *testing.T) {
	wantAverage(t, hillH(), list(18, 9, 15), 6, api.OK)
	wantAverage(t, hillM(), nil, 0, api.ErrLost)
}

func wantAverage(t *testing.T, h drain.Hill, sums []int, orders int, wantE api.Errno) {
	t.Helper()
	l, n, e := share.Average(h)
	wantList(t, "Average", l, e, sums, wantE)
	wantValue(t, "orders of Average", n, e, orders, wantE)
}

func TestExampleSmooth(t *testing.T) {
	is, e := share.Smooth(hillH())
	wantValue(t, "Smooth of H", is, e, true, api.OK)
	wantBend(t, hillH(), nil, nil, api.ErrClash)
}

func wantBend(t *testing.T, h drain.Hill, one, two []int, wantE api.Errno) {
	t.Helper()
	first, second, e := share.Bend(h)
	wantList(t, "Bend, one", first, e, one, wantE)
	wantList(t, "Bend, two", second, e, two, wantE)
}
