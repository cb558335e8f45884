package rub_test

import (
	"reflect"
	"slices"
	"testing"

	"novaculite/api"
	"novaculite/rub"
)

func TestFewestIsHalfOfDifferences(t *testing.T) { // P5.12
	forAllPairs(t, func(f family, a, b int) {
		if !f.can(a, b) {
			return
		}
		number, e := rub.Fewest(f.rows[a], f.rows[b])
		wantValue(t, "Fewest", 2*number, e, differences(f.rows[a], f.rows[b]), api.OK)
	})
}

func differences(a, b []int) int {
	sum := 0
	for i := range a {
		sum += max(a[i]-b[i], b[i]-a[i])
	}
	return sum
}

func TestNoRubbingSavesTwo(t *testing.T) { // P5.12
	r := newRandom()
	families := allFamilies()
	for range 20000 {
		f := anyOf(r, families)
		a, b := anyOf(r, f.rows), anyOf(r, f.rows)
		for i := range a {
			for j := range a {
				rubbed, e := rub.Rub(a, i, j)
				if e == api.OK && differences(rubbed, b) < differences(a, b)-2 {
					t.Fatalf("rows %v and %v: %d and %d save more than one rubbing", a, b, i, j)
				}
			}
		}
	}
}

func TestRisesOfMeetJoin(t *testing.T) { // P5.13
	forAllPairs(t, func(f family, a, b int) {
		x, _ := rub.Rises(f.rows[a])
		y, _ := rub.Rises(f.rows[b])
		meet, _ := rub.Meet(f.rows[a], f.rows[b])
		join, _ := rub.Join(f.rows[a], f.rows[b])
		low, e := rub.Rises(meet)
		wantErrno(t, "Rises of Meet", e, api.OK)
		high, e := rub.Rises(join)
		wantErrno(t, "Rises of Join", e, api.OK)
		for k := range x {
			if low[k] != min(x[k], y[k]) || high[k] < max(x[k], y[k]) {
				t.Errorf("Meet %v, Join %v", meet, join)
			}
		}
	})
}

func TestFlatIsLowest(t *testing.T) { // P5.14
	forAllRows(t, func(f family, a int) {
		row := f.rows[a]
		flat, _ := rub.Flat(row)
		is, e := rub.Becomes(row, flat)
		wantValue(t, "Becomes of a row and its flat one", is, e, true, api.OK)
		below, e := rub.Below(flat)
		wantLists(t, "Below of the flat row", below, e, lists(flat), api.OK)
		squares, _ := rub.Power(row, 2)
		least, _ := rub.Power(flat, 2)
		if squares <= least && !slices.Equal(row, flat) {
			t.Errorf("squares %d, and %d of the flat row", squares, least)
		}
	})
}

func TestPowersFall(t *testing.T) { // P5.15
	forAllPairs(t, func(f family, a, b int) {
		if a == b || !f.can(a, b) {
			return
		}
		for power := 1; power <= rub.MaxPower; power++ {
			before, _ := rub.Power(f.rows[a], power)
			after, _ := rub.Power(f.rows[b], power)
			if power == 1 && before != after || power > 1 && before <= after {
				t.Errorf("Power %d: %d before, %d after", power, before, after)
			}
		}
	})
}

func TestTurnedTwice(t *testing.T) { // P5.16
	for _, row := range allRows(6) {
		turned, e := rub.Turned(row)
		if e != api.OK {
			continue
		}
		back, e := rub.Turned(turned)
		isZero := func(thick int) bool { return thick == 0 }
		wantList(t, "Turned of Turned", back, e, slices.DeleteFunc(slices.Clone(row), isZero), api.OK)
	}
}

func TestTurnedTheOtherWay(t *testing.T) { // P5.16
	forAllPairs(t, func(f family, a, b int) {
		x, e := rub.Turned(f.rows[a])
		y, e2 := rub.Turned(f.rows[b])
		if e != api.OK || e2 != api.OK || !f.can(a, b) {
			return
		}
		for len(y) < len(x) {
			y = append(y, 0)
		}
		is, e := rub.Becomes(y, x)
		wantValue(t, "Becomes of the turned rows", is, e, true, api.OK)
	})
}

func TestOneMoreStone(t *testing.T) { // P5.17
	forAllPairs(t, func(f family, a, b int) {
		if f.number == rub.MaxStones {
			return
		}
		is, _ := rub.Becomes(f.rows[a], f.rows[b])
		more, e := rub.Becomes(append(slices.Clone(f.rows[a]), 0), append(slices.Clone(f.rows[b]), 0))
		wantValue(t, "Becomes with one more stone", more, e, is, api.OK)
	})
}

func TestBelowOfBelow(t *testing.T) { // P5.17
	r := newRandom()
	families := allFamilies()
	for range 500 {
		row := anyOf(r, anyOf(r, families).rows)
		below, _ := rub.Below(row)
		fewer, _ := rub.Below(anyOf(r, below))
		for _, l := range fewer {
			if !slices.ContainsFunc(below, func(m []int) bool { return slices.Equal(l, m) }) {
				t.Fatalf("row %v: %v is below a row below, and not below", row, l)
			}
		}
	}
}

func TestThereAndBack(t *testing.T) { // P5.18
	for _, row := range allRows(6) {
		rises, e := rub.Rises(row)
		wantErrno(t, "Rises", e, api.OK)
		back, e := rub.Row(rises)
		wantList(t, "Row of Rises", back, e, row, api.OK)
		again, e := rub.Rises(back)
		wantList(t, "Rises of Row", again, e, rises, api.OK)
		if t.Failed() {
			t.Fatalf("row %v", row)
		}
	}
}

func TestSumStays(t *testing.T) { // P5.18
	for _, row := range allRows(6) {
		for i := range row {
			for j := range row {
				rubbed, e := rub.Rub(row, i, j)
				if e == api.OK && checkTwoOf(row, rubbed) != api.OK {
					t.Fatalf("row %v: %v after %d and %d", row, rubbed, i, j)
				}
			}
		}
	}
}

func TestAllRowsAreBelowOne(t *testing.T) { // P5.18
	for _, f := range allFamilies() {
		top := make([]int, f.number)
		for i := range top {
			top[i] = min(rub.MaxThick, max(f.sum-i*rub.MaxThick, 0))
		}
		below, e := rub.Below(top)
		wantLists(t, "Below", below, e, f.rows, api.OK)
		number, e := rub.Count(f.number, f.sum)
		wantValue(t, "Count", number, e, len(below), api.OK)
		if t.Failed() {
			t.Fatalf("row %v", top)
		}
	}
}

// answers returns what all functions return for some arguments.
func answers(a, b, rises []int, i, j int) []any {
	var all []any
	add := func(results ...any) { all = append(all, results...) }
	two := func(result any, e api.Errno) { add(result, e) }
	three := func(i, j int, e api.Errno) { add(i, j, e) }
	add(rub.Check(a))
	two(rub.Rises(a))
	two(rub.Row(rises))
	two(rub.Rub(a, i, j))
	two(rub.Becomes(a, b))
	two(rub.Why(a, b))
	add(rub.Proves(a, b, i))
	two(rub.Fewest(a, b))
	three(rub.First(a, b))
	two(rub.Below(a))
	two(rub.Steps(a))
	two(rub.Flat(a))
	two(rub.Longest(a, b))
	two(rub.Meet(a, b))
	two(rub.Join(a, b))
	two(rub.Count(i, j))
	two(rub.Turned(a))
	two(rub.Power(a, i))
	return all
}

func TestArgumentsStayAndAnswersRepeat(t *testing.T) { // P1, R4
	r := newRandom()
	families := allFamilies()
	for range 3000 {
		f := anyOf(r, families)
		a, b := slices.Clone(anyOf(r, f.rows)), slices.Clone(anyOf(r, f.rows))
		rises, _ := rub.Rises(a)
		a, b, rises = spoil(r, a), spoil(r, b), spoil(r, rises)
		i, j := anyOf(r, edges()), anyOf(r, edges())
		a2, b2, rises2 := slices.Clone(a), slices.Clone(b), slices.Clone(rises)
		first := answers(a, b, rises, i, j)
		if !slices.Equal(a, a2) || !slices.Equal(b, b2) || !slices.Equal(rises, rises2) {
			t.Fatalf("arguments were changed: %v %v %v", a2, b2, rises2)
		}
		if !reflect.DeepEqual(first, answers(a, b, rises, i, j)) {
			t.Fatalf("other answers: %v %v %v %d %d", a, b, rises, i, j)
		}
	}
}

func TestResultsAreOwnMemory(t *testing.T) { // R4
	row := list(2, 2, 1)
	flat, _ := rub.Flat(row)
	meet, _ := rub.Meet(row, row)
	join, _ := rub.Join(row, row)
	for _, l := range lists(flat, meet, join) {
		l[0] = 99
		wantList(t, "the row", row, api.OK, list(2, 2, 1), api.OK)
	}
	for _, of := range []func(row []int) ([][]int, api.Errno){rub.Below, rub.Steps} {
		row := list(4, 2, 0)
		rows, _ := of(row)
		want, _ := of(row)
		for i := range rows {
			rows[i][0] = 99
			_ = append(rows[i], 98, 97, 96)
			rows[i] = slices.Clone(want[i])
			wantLists(t, "the rows", rows, api.OK, want, api.OK)
		}
		wantList(t, "the row", row, api.OK, list(4, 2, 0), api.OK)
	}
}
