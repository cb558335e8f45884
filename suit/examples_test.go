package suit_test

import (
	"testing"

	"novaculite/api"
	"novaculite/grade"
	"novaculite/suit"
)

// Each test of this file is a row of the chapter's table of examples.

func TestExampleFirstsWishes(t *testing.T) {
	firsts, e := suit.Firsts(bookB())
	wantList(t, "Firsts of B", firsts, e, list(0, 1), api.OK)
	firsts, e = suit.Firsts(bookC())
	wantList(t, "Firsts of C", firsts, e, list(0), api.OK)
	wishes, e := suit.Wishes(bookB())
	wantList(t, "Wishes of B", wishes, e, [][2]int{{0, -1}, {0, 2}, {1, -1}}, api.OK)
	wishes, e = suit.Wishes(bookC())
	wantList(t, "Wishes of C", wishes, e, [][2]int{{0, 1}, {0, 1}, {0, 1}}, api.OK)
}

func TestExampleValid(t *testing.T) {
	wantErrno(t, "Valid of B: 0 2 1", suit.Valid(bookB(), list(0, 2, 1)), api.OK)
	wantErrno(t, "Valid of B: -1 0 1", suit.Valid(bookB(), list(-1, 0, 1)), api.OK)
	wantErrno(t, "Valid of B: 0 1 -1", suit.Valid(bookB(), list(0, 1, -1)), api.ErrLost)
	wantErrno(t, "Valid of B: 0 0 1", suit.Valid(bookB(), list(0, 0, 1)), api.ErrTwice)
	wantErrno(t, "Valid of B: 0 2", suit.Valid(bookB(), list(0, 2)), api.ErrShape)
	wantErrno(t, "Valid of B: 3 2 1", suit.Valid(bookB(), list(3, 2, 1)), api.ErrNone)
}

func TestExamplePlacesMajority(t *testing.T) {
	places, e := suit.Places(bookB(), list(0, 2, 1))
	wantList(t, "Places of B: 0 2 1", places, e, list(0, 1, 0), api.OK)
	places, e = suit.Places(bookB(), list(-1, 0, 1))
	wantList(t, "Places of B: -1 0 1", places, e, list(2, 0, 0), api.OK)
	majority, e := suit.Majority(bookB(), list(0, 2, 1), list(-1, 0, 1))
	wantValue(t, "Majority of B: 0 2 1 over -1 0 1", majority, e, 0, api.OK)
	majority, e = suit.Majority(bookB(), list(0, 2, 1), list(0, -1, 1))
	wantValue(t, "Majority of B: 0 2 1 over 0 -1 1", majority, e, 1, api.OK)
}

func TestExampleMarginWinner(t *testing.T) {
	margin, e := suit.Margin(bookB(), list(0, 2, 1))
	wantValue(t, "Margin of B: 0 2 1", margin, e, 0, api.OK)
	margin, e = suit.Margin(bookB(), list(-1, 2, 1))
	wantValue(t, "Margin of B: -1 2 1", margin, e, 1, api.OK)
	margin, e = suit.Margin(bookC(), list(0, 1, 2))
	wantValue(t, "Margin of C: 0 1 2", margin, e, 1, api.OK)
	winner, e := suit.Winner(bookC(), list(0, 1, 2))
	wantList(t, "Winner of C: 0 1 2", winner, e, list(-1, 0, 1), api.OK)
	winner, e = suit.Winner(bookB(), list(0, 2, 1))
	wantList(t, "Winner of B: 0 2 1", winner, e, nil, api.ErrClash)
}

func TestExamplePopular(t *testing.T) {
	is, e := suit.Popular(bookB(), list(0, 2, 1))
	wantValue(t, "Popular of B: 0 2 1", is, e, true, api.OK)
	is, e = suit.Popular(bookB(), list(-1, 2, 1))
	wantValue(t, "Popular of B: -1 2 1", is, e, false, api.OK)
	division, e := suit.First(bookB())
	wantList(t, "First of B", division, e, list(-1, 0, 1), api.OK)
	division, e = suit.Largest(bookB())
	wantList(t, "Largest of B", division, e, list(0, 2, 1), api.OK)
	division, e = suit.First(bookC())
	wantList(t, "First of C", division, e, nil, api.ErrLost)
	number, e := suit.Count(bookB())
	wantValue(t, "Count of B", number, e, 2, api.OK)
	number, e = suit.Count(bookC())
	wantValue(t, "Count of C", number, e, 0, api.OK)
	number, e = suit.Least(bookB())
	wantValue(t, "Least of B", number, e, 0, api.OK)
	number, e = suit.Least(bookC())
	wantValue(t, "Least of C", number, e, 1, api.OK)
}

func TestExampleWhyProves(t *testing.T) {
	group, e := suit.Why(bookC())
	wantList(t, "Why of C", group, e, list(0, 1, 2), api.OK)
	group, e = suit.Why(bookB())
	wantList(t, "Why of B", group, e, nil, api.ErrClash)
	wantErrno(t, "Proves of C: 0, 1, 2", suit.Proves(bookC(), list(0, 1, 2)), api.OK)
	wantErrno(t, "Proves of C: 0, 1", suit.Proves(bookC(), list(0, 1)), api.ErrProof)
	wantErrno(t, "Proves of C: 2, 1", suit.Proves(bookC(), list(2, 1)), api.ErrOrder)
	wantErrno(t, "Proves of C: none", suit.Proves(bookC(), nil), api.ErrEmpty)
	wantErrno(t, "Proves of C: 3", suit.Proves(bookC(), list(3)), api.ErrNone)
	wantErrno(t, "Proves of B: 0, 1", suit.Proves(bookB(), list(0, 1)), api.ErrProof)
}

func TestExampleSoundBetter(t *testing.T) {
	is, e := suit.Sound(bookB(), list(0, 2, 1))
	wantValue(t, "Sound of B: 0 2 1", is, e, true, api.OK)
	is, e = suit.Sound(bookB(), list(-1, 2, 1))
	wantValue(t, "Sound of B: -1 2 1", is, e, false, api.OK)
	division, e := suit.Better(bookB(), list(-1, 2, 1))
	wantList(t, "Better of B: -1 2 1", division, e, list(-1, 0, 1), api.OK)
	division, e = suit.Better(bookB(), list(0, 2, 1))
	wantList(t, "Better of B: 0 2 1", division, e, nil, api.ErrClash)
}

func TestExampleJudged(t *testing.T) {
	stones, e := suit.Judged(order(4, [][2]int{{0, 2}, {0, 3}, {1, 3}}))
	wantList(t, "Judged of 4 stones, 0 2, 0 3, 1 3", stones, e, list(0, 1, 2, 3), api.OK)
	stones, e = suit.Judged(order(3, [][2]int{{0, 2}, {1, 2}}))
	wantList(t, "Judged of 3, 0 2, 1 2", stones, e, nil, api.ErrClash)
	stones, e = suit.Judged(order(4, [][2]int{{0, 1}, {2, 3}}))
	wantList(t, "Judged of 4, 0 1, 2 3", stones, e, nil, api.ErrLost)
}

func order(stones int, sharper [][2]int) grade.Order {
	return grade.Order{Stones: stones, Sharper: sharper}
}

func TestExampleCheck(t *testing.T) {
	wantErrno(t, "Check of 6 stones", suit.Check(book(6, list(0))), api.ErrRange)
	wantErrno(t, "Check of 3 without lists", suit.Check(book(3)), api.ErrEmpty)
	wantErrno(t, "Check of 3 with a list of none", suit.Check(book(3, nil)), api.ErrShape)
	wantErrno(t, "Check of 3 with 0 3", suit.Check(book(3, list(0, 3))), api.ErrNone)
	wantErrno(t, "Check of 3 with 0 0", suit.Check(book(3, list(0, 0))), api.ErrTwice)
}
