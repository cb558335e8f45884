package drain_test

import (
	"testing"

	"novaculite/api"
	"novaculite/drain"
)

// The tests of this file are the rows of the chapter's table of examples.

func TestExampleGroups(t *testing.T) {
	l, e := drain.Stuck(hillH())
	wantList(t, "Stuck of H", l, e, nil, api.OK)
	l, e = drain.Stuck(hillK())
	wantList(t, "Stuck of K", l, e, list(0, 1), api.OK)
	l, e = drain.Trap(hillH())
	wantList(t, "Trap of H", l, e, nil, api.ErrClash)
	l, e = drain.Trap(hillK())
	wantList(t, "Trap of K", l, e, list(0, 1), api.OK)
	l, e = drain.Leaves(hillH(), list(0, 1))
	wantList(t, "Leaves of H: 0 1", l, e, list(2, 3), api.OK)
	l, e = drain.Leaves(hillH(), list(1, 2))
	wantList(t, "Leaves of H: 1 2", l, e, list(1, 3, 5), api.OK)
	l, e = drain.Leaves(hillH(), nil)
	wantList(t, "Leaves of H: none", l, e, nil, api.ErrEmpty)
	l, e = drain.Leaves(hillH(), list(2, 1))
	wantList(t, "Leaves of H: 2 1", l, e, nil, api.ErrOrder)
}

func TestExampleValid(t *testing.T) {
	wantErrno(t, "Valid of H: 0, 3, 4", drain.Valid(hillH(), list(0, 3, 4)), api.OK)
	wantErrno(t, "Valid of H: 0, 1, 4", drain.Valid(hillH(), list(0, 1, 4)), api.ErrClash)
	wantErrno(t, "Valid of H: 0, 2, 3", drain.Valid(hillH(), list(0, 2, 3)), api.ErrTwice)
	wantErrno(t, "Valid of H: 0, 3", drain.Valid(hillH(), list(0, 3)), api.ErrOpen)
	wantErrno(t, "Valid of H: 3, 0, 4", drain.Valid(hillH(), list(3, 0, 4)), api.ErrOrder)
	wantErrno(t, "Valid of H: 0, 3, 9", drain.Valid(hillH(), list(0, 3, 9)), api.ErrNone)
}

func TestExampleCostAndWay(t *testing.T) {
	n, e := drain.Cost(hillH(), list(0, 3, 4))
	wantNumber(t, "Cost of H: 0, 3, 4", n, e, 7, api.OK)
	l, e := drain.Way(hillH(), list(0, 3, 4), 2)
	wantList(t, "Way of H by 0, 3, 4: 2", l, e, list(2, 1, 3), api.OK)
	l, e = drain.Way(hillH(), list(0, 3, 4), 3)
	wantList(t, "Way of H by 0, 3, 4: 3", l, e, nil, api.ErrNone)
}

func TestExamplePlans(t *testing.T) {
	l, e := drain.Cheapest(hillH())
	wantList(t, "Cheapest of H", l, e, list(0, 3, 4), api.OK)
	n, e := drain.Least(hillH())
	wantNumber(t, "Least of H", n, e, 7, api.OK)
	n, e = drain.Least(hillK())
	wantNumber(t, "Least of K", n, e, 0, api.ErrLost)
	n, e = drain.Count(hillH())
	wantNumber(t, "Count of H", n, e, 6, api.OK)
	n, e = drain.Count(hillK())
	wantNumber(t, "Count of K", n, e, 0, api.OK)
	n, e = drain.Count(hillL())
	wantNumber(t, "Count of L", n, e, 1, api.OK)
	n, e = drain.Equal(hillH())
	wantNumber(t, "Equal of H", n, e, 1, api.OK)
}

func TestExampleOneChannel(t *testing.T) {
	l, e := drain.Needed(hillH())
	wantList(t, "Needed of H", l, e, nil, api.OK)
	l, e = drain.Needed(hillL())
	wantList(t, "Needed of L", l, e, list(0), api.OK)
	n, e := drain.Without(hillH(), 3)
	wantNumber(t, "Without of H: 3", n, e, 1, api.OK)
	n, e = drain.Without(hillH(), 2)
	wantNumber(t, "Without of H: 2", n, e, 0, api.OK)
	n, e = drain.Without(hillL(), 0)
	wantNumber(t, "Without of L: 0", n, e, 0, api.ErrLost)
	n, e = drain.Price(hillH(), 2)
	wantNumber(t, "Price of H: 2", n, e, 4, api.OK)
	n, e = drain.Price(hillH(), 3)
	wantNumber(t, "Price of H: 3", n, e, 5, api.OK)
	n, e = drain.Price(hillH(), 1)
	wantNumber(t, "Price of H: 1", n, e, 0, api.OK)
	n, e = drain.Price(hillL(), 0)
	wantNumber(t, "Price of L: 0", n, e, 0, api.ErrClash)
}

func TestExampleDues(t *testing.T) {
	d, e := drain.Dues(hillH())
	wantDues(t, "Dues of H", d, e, duesH(), api.OK)
	d, e = drain.Dues(hillK())
	wantDues(t, "Dues of K", d, e, nil, api.ErrLost)
	d, e = drain.Dues(hillL())
	wantDues(t, "Dues of L", d, e, nil, api.OK)
	l, e := drain.Charged(hillH(), []drain.Due{due(3, 0, 1), due(2, 2)})
	wantList(t, "Charged of H", l, e, list(0, 0, 3, 3, 2, 2), api.OK)
	wantErrno(t, "Proves of H: 0, 3, 4", drain.Proves(hillH(), list(0, 3, 4), duesH()), api.OK)
	wantErrno(t, "Proves of H: 0, 3, 5", drain.Proves(hillH(), list(0, 3, 5), duesH()), api.ErrProof)
	wantErrno(t, "Proves of H by 0 pays 2", drain.Proves(hillH(), list(0, 3, 4), []drain.Due{due(2, 0)}), api.ErrOver)
}

func TestExampleApart(t *testing.T) {
	l, n, e := drain.Narrow(hillH())
	wantList(t, "Narrow of H", l, e, list(0), api.OK)
	wantNumber(t, "Narrow of H", n, e, 2, api.OK)
	l, n, e = drain.Narrow(hillK())
	wantList(t, "Narrow of K", l, e, list(0, 1), api.OK)
	wantNumber(t, "Narrow of K", n, e, 0, api.OK)
	n, e = drain.Most(hillH())
	wantNumber(t, "Most of H", n, e, 2, api.OK)
	n, e = drain.Most(hillK())
	wantNumber(t, "Most of K", n, e, 0, api.OK)
	plans, e := drain.Apart(hillH(), 2)
	wantLists(t, "Apart of H: 2", plans, e, [][]int{{0, 3, 4}, {1, 2, 5}}, api.OK)
	plans, e = drain.Apart(hillH(), 3)
	wantLists(t, "Apart of H: 3", plans, e, nil, api.ErrLost)
	plans, e = drain.Apart(hillH(), 5)
	wantLists(t, "Apart of H: 5", plans, e, nil, api.ErrRange)
}

func TestExampleErrors(t *testing.T) {
	wantErrno(t, "Check of 0 galleries", drain.Check(hill(0)), api.ErrRange)
	wantErrno(t, "Check of 0 0 1", drain.Check(hill(1, 0, 0, 1)), api.ErrClash)
	wantErrno(t, "Check of 0 2 1", drain.Check(hill(1, 0, 2, 1)), api.ErrNone)
	wantErrno(t, "Check of 0 1 21", drain.Check(hill(1, 0, 1, 21)), api.ErrRange)
	wantErrno(t, "Check of 0 1 1, 0 1 2", drain.Check(hill(1, 0, 1, 1, 0, 1, 2)), api.ErrTwice)
}
