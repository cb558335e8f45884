package rub_test

import (
	"testing"

	"novaculite/api"
	"novaculite/rub"
)

// Each test of this file is a row of the chapter's table of examples.

func TestExampleRisesRow(t *testing.T) {
	rises, e := rub.Rises(list(4, 2, 0))
	wantList(t, "Rises of 4, 2, 0", rises, e, list(0, 4, 6, 6), api.OK)
	for _, x := range []struct {
		name        string
		rises, want []int
		e           api.Errno
	}{
		{"0, 4, 6, 6", list(0, 4, 6, 6), list(4, 2, 0), api.OK},
		{"0, 1, 3", list(0, 1, 3), nil, api.ErrOrder},
		{"1, 2", list(1, 2), nil, api.ErrShape},
		{"0", list(0), nil, api.ErrEmpty},
	} {
		row, e := rub.Row(x.rises)
		wantList(t, "Row of "+x.name, row, e, x.want, x.e)
	}
}

func TestExampleRub(t *testing.T) {
	for _, x := range []struct {
		name string
		row  []int
		i, j int
		want []int
		e    api.Errno
	}{
		{"4, 2, 0: 0 and 2", list(4, 2, 0), 0, 2, list(3, 2, 1), api.OK},
		{"4, 2, 0: 0 and 1", list(4, 2, 0), 0, 1, list(3, 3, 0), api.OK},
		{"4, 2, 0: 1 and 2", list(4, 2, 0), 1, 2, list(4, 1, 1), api.OK},
		{"4, 2, 0: 2 and 0", list(4, 2, 0), 2, 0, nil, api.ErrOrder},
		{"4, 2, 0: 0 and 3", list(4, 2, 0), 0, 3, nil, api.ErrNone},
		{"3, 2: 0 and 1", list(3, 2), 0, 1, nil, api.ErrClash},
	} {
		row, e := rub.Rub(x.row, x.i, x.j)
		wantList(t, "Rub of "+x.name, row, e, x.want, x.e)
	}
}

func TestExampleBecomesWhy(t *testing.T) {
	is, e := rub.Becomes(list(4, 2, 0), list(3, 2, 1))
	wantValue(t, "Becomes of 4, 2, 0 and 3, 2, 1", is, e, true, api.OK)
	is, e = rub.Becomes(list(3, 3, 0), list(4, 1, 1))
	wantValue(t, "Becomes of 3, 3, 0 and 4, 1, 1", is, e, false, api.OK)
	k, e := rub.Why(list(3, 3, 0), list(4, 1, 1))
	wantValue(t, "Why of 3, 3, 0 and 4, 1, 1", k, e, 1, api.OK)
	k, e = rub.Why(list(4, 2, 0), list(3, 2, 1))
	wantValue(t, "Why of 4, 2, 0 and 3, 2, 1", k, e, 0, api.ErrClash)
}

func TestExampleProves(t *testing.T) {
	wantErrno(t, "Proves: 1", rub.Proves(list(3, 3, 0), list(4, 1, 1), 1), api.OK)
	wantErrno(t, "Proves: 2", rub.Proves(list(3, 3, 0), list(4, 1, 1), 2), api.ErrProof)
	wantErrno(t, "Proves: 4", rub.Proves(list(3, 3, 0), list(4, 1, 1), 4), api.ErrNone)
}

func TestExampleFewestFirst(t *testing.T) {
	number, e := rub.Fewest(list(4, 2, 0), list(2, 2, 2))
	wantValue(t, "Fewest of 4, 2, 0 and 2, 2, 2", number, e, 2, api.OK)
	i, j, e := rub.First(list(4, 2, 0), list(2, 2, 2))
	wantPlaces(t, "First of 4, 2, 0 and 2, 2, 2", i, j, e, 0, 2, api.OK)
	i, j, e = rub.First(list(3, 3, 0), list(4, 1, 1))
	wantPlaces(t, "First of 3, 3, 0 and 4, 1, 1", i, j, e, 0, 0, api.ErrLost)
	i, j, e = rub.First(list(2, 2), list(2, 2))
	wantPlaces(t, "First of 2, 2 and 2, 2", i, j, e, 0, 0, api.ErrClash)
}

func TestExampleBelowStepsFlatLongest(t *testing.T) {
	below, e := rub.Below(list(3, 1, 0))
	wantLists(t, "Below of 3, 1, 0", below, e, lists(list(3, 1, 0), list(2, 2, 0), list(2, 1, 1)), api.OK)
	steps, e := rub.Steps(list(4, 2, 0))
	wantLists(t, "Steps of 4, 2, 0", steps, e, lists(list(4, 1, 1), list(3, 3, 0)), api.OK)
	flat, e := rub.Flat(list(5, 0, 0))
	wantList(t, "Flat of 5, 0, 0", flat, e, list(2, 2, 1), api.OK)
	number, e := rub.Longest(list(4, 2, 0), list(2, 2, 2))
	wantValue(t, "Longest of 4, 2, 0 and 2, 2, 2", number, e, 3, api.OK)
}

func TestExampleMeetJoin(t *testing.T) {
	row, e := rub.Meet(list(3, 3, 0), list(4, 1, 1))
	wantList(t, "Meet of 3, 3, 0 and 4, 1, 1", row, e, list(3, 2, 1), api.OK)
	row, e = rub.Join(list(3, 3, 0), list(4, 1, 1))
	wantList(t, "Join of 3, 3, 0 and 4, 1, 1", row, e, list(4, 2, 0), api.OK)
}

func TestExampleCountTurnedPower(t *testing.T) {
	number, e := rub.Count(3, 6)
	wantValue(t, "Count of 3 and 6", number, e, 7, api.OK)
	number, e = rub.Count(1, 8)
	wantValue(t, "Count of 1 and 8", number, e, 1, api.OK)
	number, e = rub.Count(2, 17)
	wantValue(t, "Count of 2 and 17", number, e, 0, api.ErrRange)
	row, e := rub.Turned(list(4, 2, 0))
	wantList(t, "Turned of 4, 2, 0", row, e, list(2, 2, 1, 1), api.OK)
	row, e = rub.Turned(list(0, 0))
	wantList(t, "Turned of 0, 0", row, e, nil, api.ErrOpen)
	row, e = rub.Turned(list(8))
	wantList(t, "Turned of 8", row, e, nil, api.ErrMany)
	number, e = rub.Power(list(4, 2, 0), 2)
	wantValue(t, "Power of 4, 2, 0: 2", number, e, 20, api.OK)
	number, e = rub.Power(list(4, 2, 0), 5)
	wantValue(t, "Power of 4, 2, 0: 5", number, e, 0, api.ErrRange)
}

func TestExampleCheck(t *testing.T) {
	wantErrno(t, "Check of no stones", rub.Check(nil), api.ErrEmpty)
	wantErrno(t, "Check of 9", rub.Check(list(9)), api.ErrRange)
	wantErrno(t, "Check of 1, 2", rub.Check(list(1, 2)), api.ErrOrder)
	is, e := rub.Becomes(list(2, 0), list(1, 1, 0))
	wantValue(t, "Becomes of 2, 0 and 1, 1, 0", is, e, false, api.ErrShape)
	is, e = rub.Becomes(list(2, 0), list(2, 1))
	wantValue(t, "Becomes of 2, 0 and 2, 1", is, e, false, api.ErrSum)
}
