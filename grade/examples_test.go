package grade_test

import (
	"testing"

	"novaculite/api"
	"novaculite/grade"
)

// Each test of this file is a row of the chapter's table of examples.

func TestExampleKindTwoThree(t *testing.T) {
	for i, o := range []grade.Order{orderO(), orderP(), orderQ(), orderW()} {
		kind, e := grade.Kind(o)
		wantValue(t, "Kind", kind, e, i, api.OK)
	}
	four, e := grade.Two(orderO())
	wantList(t, "Two of O", four, e, list(0, 1, 2, 3), api.OK)
	four, e = grade.Two(orderP())
	wantList(t, "Two of P", four, e, nil, api.ErrClash)
	four, e = grade.Three(orderP())
	wantList(t, "Three of P", four, e, list(0, 1, 2, 3), api.OK)
	four, e = grade.Three(orderQ())
	wantList(t, "Three of Q", four, e, nil, api.ErrClash)
}

func TestExampleAgainst(t *testing.T) {
	wantErrno(t, "Against of O: 0 1 2 3", grade.Against(orderO(), list(0, 1, 2, 3)), api.OK)
	wantErrno(t, "Against of P: 0 1 2 3", grade.Against(orderP(), list(0, 1, 2, 3)), api.OK)
	wantErrno(t, "Against of P: 0 1 2 0", grade.Against(orderP(), list(0, 1, 2, 0)), api.ErrProof)
	wantErrno(t, "Against of P: 0 1 2 4", grade.Against(orderP(), list(0, 1, 2, 4)), api.ErrNone)
	wantErrno(t, "Against of P: 0 1 2", grade.Against(orderP(), list(0, 1, 2)), api.ErrShape)
}

func TestExampleIntervalsSpans(t *testing.T) {
	intervals, e := grade.Intervals(orderP())
	wantList(t, "Intervals of P", intervals, e, pairs(2, 2, 1, 1, 0, 0, 0, 2), api.OK)
	intervals, e = grade.Intervals(orderW())
	wantList(t, "Intervals of W", intervals, e, pairs(1, 1, 1, 1, 0, 0), api.OK)
	intervals, e = grade.Intervals(orderO())
	wantList(t, "Intervals of O", intervals, e, nil, api.ErrLost)
	wantErrno(t, "Spans of P: 5 5, 3 4, 1 2, 1 9", grade.Spans(orderP(), pairs(5, 5, 3, 4, 1, 2, 1, 9)), api.OK)
	wantErrno(t, "Spans of P: 2 2, 1 1, 0 0, 0 0", grade.Spans(orderP(), pairs(2, 2, 1, 1, 0, 0, 0, 0)), api.ErrProof)
	wantErrno(t, "Spans of P: 2 1, 1 1, 0 0, 0 2", grade.Spans(orderP(), pairs(2, 1, 1, 1, 0, 0, 0, 2)), api.ErrOrder)
}

func TestExampleStepNumbers(t *testing.T) {
	step, e := grade.Step(orderQ())
	wantValue(t, "Step of Q", step, e, 2, api.OK)
	step, e = grade.Step(orderW())
	wantValue(t, "Step of W", step, e, 1, api.OK)
	step, e = grade.Step(orderP())
	wantValue(t, "Step of P", step, e, 0, api.ErrLost)
	numbers, e := grade.Numbers(orderQ(), 2)
	wantList(t, "Numbers of Q with 2", numbers, e, list(3, 2, 1, 0), api.OK)
	numbers, e = grade.Numbers(orderQ(), 1)
	wantList(t, "Numbers of Q with 1", numbers, e, nil, api.ErrLost)
	numbers, e = grade.Numbers(orderQ(), 3)
	wantList(t, "Numbers of Q with 3", numbers, e, list(4, 3, 1, 0), api.OK)
	numbers, e = grade.Numbers(orderW(), 1)
	wantList(t, "Numbers of W with 1", numbers, e, list(1, 1, 0), api.OK)
}

func TestExampleMeasures(t *testing.T) {
	wantErrno(t, "Measures of Q with 2: 3, 2, 1, 0", grade.Measures(orderQ(), 2, list(3, 2, 1, 0)), api.OK)
	wantErrno(t, "Measures of Q with 2: 5, 4, 3, 2", grade.Measures(orderQ(), 2, list(5, 4, 3, 2)), api.OK)
	wantErrno(t, "Measures of Q with 2: 3, 2, 0, 0", grade.Measures(orderQ(), 2, list(3, 2, 0, 0)), api.ErrProof)
	wantErrno(t, "Measures of Q with 2: 3, 2, 1", grade.Measures(orderQ(), 2, list(3, 2, 1)), api.ErrShape)
}

func TestExampleOfRanks(t *testing.T) {
	o, e := grade.Of(2, list(3, 2, 1, 0))
	wantOrder(t, "Of 2: 3, 2, 1, 0", o, e, orderQ(), api.OK)
	o, e = grade.Of(1, list(1, 1, 0))
	wantOrder(t, "Of 1: 1, 1, 0", o, e, orderW(), api.OK)
	o, e = grade.Of(0, list(1))
	wantOrder(t, "Of 0: 1", o, e, grade.Order{}, api.ErrRange)
	o, e = grade.Of(1, nil)
	wantOrder(t, "Of 1: none", o, e, grade.Order{}, api.ErrEmpty)
	ranks, e := grade.Ranks(orderQ())
	wantList(t, "Ranks of Q", ranks, e, list(0, 1, 2, 3), api.OK)
	ranks, e = grade.Ranks(orderW())
	wantList(t, "Ranks of W", ranks, e, list(0, 0, 2), api.OK)
	ranks, e = grade.Ranks(orderP())
	wantList(t, "Ranks of P", ranks, e, nil, api.ErrLost)
}

func TestExampleSureOfThree(t *testing.T) {
	row := claims(sharper(0, 1), sharper(1, 2))
	sure, e := grade.Sure(3, row, 0, 2)
	wantValue(t, "Sure of 0 and 2", sure, e, 1, api.OK)
	sure, e = grade.Sure(3, row, 2, 0)
	wantValue(t, "Sure of 2 and 0", sure, e, -1, api.OK)
	sure, e = grade.Sure(3, claims(sharper(0, 1)), 0, 2)
	wantValue(t, "Sure of 0 and 2 by one claim", sure, e, 0, api.ErrOpen)
	sure, e = grade.Sure(3, claims(sharper(0, 1)), 1, 1)
	wantValue(t, "Sure of 1 and 1", sure, e, 0, api.ErrTwice)
}

func TestExampleSureOfFourOrders(t *testing.T) {
	sure, e := grade.Sure(4, claims(sharper(0, 1), sharper(2, 3), like(0, 3)), 2, 1)
	wantValue(t, "Sure of 2 and 1", sure, e, 1, api.OK)
	number, e := grade.Orders(3, nil)
	wantValue(t, "Orders of 3 without claims", number, e, 19, api.OK)
	number, e = grade.Orders(3, claims(sharper(0, 1), sharper(1, 2)))
	wantValue(t, "Orders of 0 sharper 1, 1 sharper 2", number, e, 1, api.OK)
	number, e = grade.Orders(3, claims(sharper(0, 1), sharper(1, 0)))
	wantValue(t, "Orders of 0 sharper 1, 1 sharper 0", number, e, 0, api.OK)
}

func TestExampleWhyWrong(t *testing.T) {
	three, one := claims(sharper(0, 1), sharper(1, 2), like(0, 2)), claims(sharper(0, 1))
	why, e := grade.Why(3, three)
	wantList(t, "Why of three claims", why, e, list(0, 1, 2), api.OK)
	why, e = grade.Why(3, one)
	wantList(t, "Why of one claim", why, e, nil, api.ErrClash)
	wrong, e := grade.Wrong(3, three)
	wantList(t, "Wrong of three claims", wrong, e, list(0), api.OK)
	wrong, e = grade.Wrong(3, one)
	wantList(t, "Wrong of one claim", wrong, e, nil, api.OK)
}

func TestExampleAgreesShapesTold(t *testing.T) {
	is, e := grade.Agrees(orderQ(), claims(sharper(0, 2)))
	wantValue(t, "Agrees of Q: 0 sharper 2", is, e, true, api.OK)
	is, e = grade.Agrees(orderQ(), claims(like(0, 2)))
	wantValue(t, "Agrees of Q: 0 like 2", is, e, false, api.OK)
	is, e = grade.Agrees(orderP(), nil)
	wantValue(t, "Agrees of P: none", is, e, false, api.OK)
	number, e := grade.Shapes(4)
	wantValue(t, "Shapes of 4", number, e, 14, api.OK)
	number, e = grade.Shapes(6)
	wantValue(t, "Shapes of 6", number, e, 0, api.ErrRange)
	wantErrno(t, "Told of 3: 0 like 0", grade.Told(3, claims(like(0, 0))), api.ErrClash)
	wantErrno(t, "Told of 3: 0 like 3", grade.Told(3, claims(like(0, 3))), api.ErrNone)
}

func TestExampleCheck(t *testing.T) {
	wantErrno(t, "Check of 6 stones", grade.Check(order(6)), api.ErrRange)
	wantErrno(t, "Check of 3 with 0 0", grade.Check(order(3, 0, 0)), api.ErrClash)
	wantErrno(t, "Check of 3 with 0 3", grade.Check(order(3, 0, 3)), api.ErrNone)
	wantErrno(t, "Check of 3 with 0 1, 1 0", grade.Check(order(3, 0, 1, 1, 0)), api.ErrTwice)
}
