package saw_test

import (
	"testing"

	"novaculite/api"
	"novaculite/saw"
)

// Each test of this file is a row of the chapter's table of examples.

func TestExampleCellsWhole(t *testing.T) {
	cells, e := saw.Cells(slabD())
	wantList(t, "Cells of D", cells, e, list(0, 1, 2), api.OK)
	for i, x := range []struct {
		s    saw.Slab
		want bool
	}{{slabA(), true}, {slabB(), false}, {slabD(), true}} {
		whole, e := saw.Whole(x.s)
		wantBool(t, "Whole "+string(rune('0'+i)), whole, e, x.want, api.OK)
	}
}

func TestExampleValid(t *testing.T) {
	for _, x := range []struct {
		name   string
		s      saw.Slab
		blanks [][2]int
		want   api.Errno
	}{
		{"A: 0 1, 2 3", slabA(), cutting(0, 1, 2, 3), api.OK},
		{"A: 2 3, 0 1", slabA(), cutting(2, 3, 0, 1), api.ErrOrder},
		{"A: 0 3", slabA(), cutting(0, 3), api.ErrShape},
		{"A: 1 0", slabA(), cutting(1, 0), api.ErrShape},
		{"A: 0 1, 1 3", slabA(), cutting(0, 1, 1, 3), api.ErrTwice},
		{"A: 0 4", slabA(), cutting(0, 4), api.ErrNone},
		{"D: 1 3", slabD(), cutting(1, 3), api.ErrClash},
	} {
		wantErrno(t, x.name, saw.Valid(x.s, x.blanks), x.want)
	}
}

func TestExampleMostCountFirst(t *testing.T) {
	for _, x := range []struct {
		name        string
		s           saw.Slab
		most, count int
	}{{"A", slabA(), 2, 2}, {"B", slabB(), 4, 2}, {"C", slabC(), 1, 2}} {
		most, e := saw.Most(x.s)
		wantNumber(t, "Most of "+x.name, most, e, x.most, api.OK)
		count, e := saw.Count(x.s)
		wantNumber(t, "Count of "+x.name, count, e, x.count, api.OK)
	}
	first, e := saw.First(slabB())
	wantList(t, "First of B", first, e, cutting(0, 1, 2, 5, 3, 6, 7, 8), api.OK)
	first, e = saw.First(slabC())
	wantList(t, "First of C", first, e, cutting(0, 1), api.OK)
}

func TestExampleIdleSure(t *testing.T) {
	for _, x := range []struct {
		name string
		s    saw.Slab
		idle []int
	}{{"A", slabA(), nil}, {"C", slabC(), list(0, 2)}, {"D", slabD(), list(1, 2)}} {
		idle, e := saw.Idle(x.s)
		wantList(t, "Idle of "+x.name, idle, e, x.idle, api.OK)
	}
	sure, e := saw.Sure(slabA())
	wantList(t, "Sure of A", sure, e, nil, api.OK)
	sure, e = saw.Sure(slab(2, 1))
	wantList(t, "Sure of 2 wide, 1 high", sure, e, cutting(0, 1), api.OK)
}

func TestExampleBarProves(t *testing.T) {
	for _, x := range []struct {
		name string
		s    saw.Slab
		bar  []int
	}{{"A", slabA(), list(0, 3)}, {"B", slabB(), list(0, 2, 6, 8)}, {"C", slabC(), list(1)}, {"D", slabD(), list(0)}} {
		bar, e := saw.Bar(x.s)
		wantList(t, "Bar of "+x.name, bar, e, x.bar, api.OK)
	}
	for _, x := range []struct {
		name   string
		blanks int
		cells  []int
		want   api.Errno
	}{
		{"1 by 1", 1, list(1), api.OK},
		{"0 by 1", 0, list(1), api.ErrProof},
		{"1 by 0", 1, list(0), api.ErrOpen},
		{"1 by 1, 1", 1, list(1, 1), api.ErrOrder},
		{"2 by 0, 1", 2, list(0, 1), api.OK},
	} {
		wantErrno(t, "Proves of C: "+x.name, saw.Proves(slabC(), x.blanks, x.cells), x.want)
	}
}

func TestExampleHeights(t *testing.T) {
	heights, e := saw.Heights(slabA(), cutting(0, 1, 2, 3))
	wantList(t, "Heights of A: 0 1, 2 3", heights, e, list(0, 1, 0, -1, -2, -1, 0, 1, 0), api.OK)
	heights, e = saw.Heights(slabA(), cutting(0, 2, 1, 3))
	wantList(t, "Heights of A: 0 2, 1 3", heights, e, list(0, 1, 0, -1, 2, -1, 0, 1, 0), api.OK)
	heights, e = saw.Heights(slabA(), cutting(0, 1))
	wantList(t, "Heights of A: 0 1", heights, e, nil, api.ErrOpen)
	first, _ := saw.First(slabB())
	heights, e = saw.Heights(slabB(), first)
	wantList(t, "Heights of B: First of B", heights, e, nil, api.ErrShape)
}

func TestExampleTurn(t *testing.T) {
	for _, x := range []struct {
		name   string
		blanks [][2]int
		corner int
		want   [][2]int
		e      api.Errno
	}{
		{"0 1, 2 3 at 4", cutting(0, 1, 2, 3), 4, cutting(0, 2, 1, 3), api.OK},
		{"0 1, 2 3 at 0", cutting(0, 1, 2, 3), 0, nil, api.ErrClash},
		{"0 1, 2 3 at 9", cutting(0, 1, 2, 3), 9, nil, api.ErrNone},
		{"0 1 at 4", cutting(0, 1), 4, nil, api.ErrClash},
	} {
		turned, e := saw.Turn(slabA(), x.blanks, x.corner)
		wantList(t, "Turn of A: "+x.name, turned, e, x.want, x.e)
	}
}

func TestExampleLowestHighestTurns(t *testing.T) {
	lowest, e := saw.Lowest(slabA())
	wantList(t, "Lowest of A", lowest, e, cutting(0, 1, 2, 3), api.OK)
	highest, e := saw.Highest(slabA())
	wantList(t, "Highest of A", highest, e, cutting(0, 2, 1, 3), api.OK)
	lowest, e = saw.Lowest(slabB())
	wantList(t, "Lowest of B", lowest, e, nil, api.ErrShape)
	lowest, e = saw.Lowest(slabC())
	wantList(t, "Lowest of C", lowest, e, nil, api.ErrLost)
	turns, e := saw.Turns(slabA(), cutting(0, 1, 2, 3), cutting(0, 2, 1, 3))
	wantNumber(t, "Turns of A", turns, e, 1, api.OK)
}

func TestExampleCheck(t *testing.T) {
	wantErrno(t, "9 wide and 1 high", saw.Check(slab(9, 1)), api.ErrRange)
	wantErrno(t, "5 wide and 4 high", saw.Check(slab(5, 4)), api.ErrMany)
	wantErrno(t, "A with 4 spoiled", saw.Check(slab(2, 2, 4)), api.ErrNone)
	wantErrno(t, "A with 1, 1 spoiled", saw.Check(slab(2, 2, 1, 1)), api.ErrOrder)
}
