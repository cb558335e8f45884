package rub_test

import (
	"slices"
	"testing"

	"novaculite/api"
	"novaculite/rub"
)

// anyLists returns all lists of so many of some numbers.
func anyLists(number int, of []int) [][]int {
	all := [][]int{nil}
	for range number {
		var longer [][]int
		for _, l := range all {
			for _, n := range of {
				longer = append(longer, append(slices.Clone(l), n))
			}
		}
		all = longer
	}
	return all
}

// allRows returns all rows of up to so many stones.
func allRows(most int) [][]int {
	var rows [][]int
	for number := 1; number <= most; number++ {
		for _, some := range rowsOf(number) {
			rows = append(rows, some...)
		}
	}
	slices.SortFunc(rows, slices.Compare)
	return rows
}

func TestCheck(t *testing.T) { // P5.1
	for i, x := range []struct {
		row  []int
		want api.Errno
	}{
		{nil, api.ErrEmpty},
		{list(), api.ErrEmpty},
		{list(0), api.OK},
		{list(8), api.OK},
		{list(8, 8, 8, 8, 8, 8), api.OK},
		{list(0, 0, 0, 0, 0, 0), api.OK},
		{list(5, 4, 3, 2, 1, 0), api.OK},
		{make([]int, 7), api.ErrMany},
		{list(9, 10, 11, 12, 13, 14, 15), api.ErrMany},
		{list(9), api.ErrRange},
		{list(-1), api.ErrRange},
		{list(greatest), api.ErrRange},
		{list(smallest), api.ErrRange},
		{list(1, 2), api.ErrOrder},
		{list(1, 9), api.ErrRange}, // ErrOrder as well
		{list(2, 3, 9), api.ErrOrder},
		{list(2, -1, 3), api.ErrRange},
		{list(3, 2, smallest), api.ErrRange},
		{list(8, 7, 6, 5, 4, 5), api.ErrOrder},
	} {
		if e := rub.Check(x.row); e != x.want {
			t.Errorf("Check %d: %d, want %d", i, e, x.want)
		}
	}
}

func TestCheckOfAllLists(t *testing.T) { // P5.1
	seen := map[api.Errno]int{}
	for number := range 8 {
		of := edges()
		if number > 3 {
			of = list(0, 1, 8, 9)
		}
		for _, row := range anyLists(number, of) {
			want := checkOf(row)
			seen[want]++
			if e := rub.Check(row); e != want {
				t.Fatalf("Check of %v: %d, want %d", row, e, want)
			}
		}
	}
	if len(seen) != 5 {
		t.Errorf("not each error was seen: %v", seen)
	}
}

func TestErrorsOfRowsComeFirst(t *testing.T) { // P5.1
	for _, row := range lists(nil, make([]int, 7), list(9), list(3, -1), list(1, 2)) {
		want := checkOf(row)
		for _, n := range edges() {
			l, e := rub.Rub(row, n, 0)
			wantList(t, "Rub", l, e, nil, want)
			number, e := rub.Power(row, n)
			wantValue(t, "Power", number, e, 0, want)
		}
		l, e := rub.Rises(row)
		wantList(t, "Rises", l, e, nil, want)
		l, e = rub.Flat(row)
		wantList(t, "Flat", l, e, nil, want)
		l, e = rub.Turned(row)
		wantList(t, "Turned", l, e, nil, want)
		rows, e := rub.Below(row)
		wantLists(t, "Below", rows, e, nil, want)
		rows, e = rub.Steps(row)
		wantLists(t, "Steps", rows, e, nil, want)
		if t.Failed() {
			t.Fatalf("row %v", row)
		}
	}
}

func TestErrorsOfTwoRows(t *testing.T) { // P5.1
	rows := lists(nil, make([]int, 7), list(9), list(3, -1), list(1, 2), list(2, 0), list(1, 1), list(2, 1), list(2, 0, 0), list(2))
	seen := map[api.Errno]bool{}
	for _, a := range rows {
		for _, b := range rows {
			want := checkTwoOf(a, b)
			seen[want] = true
			if want != api.OK {
				wantErrorOfTwo(t, a, b, want)
			}
		}
	}
	if len(seen) != 7 {
		t.Errorf("not each error was seen: %v", seen)
	}
}

func wantErrorOfTwo(t *testing.T, a, b []int, want api.Errno) {
	t.Helper()
	is, e := rub.Becomes(a, b)
	wantValue(t, "Becomes", is, e, false, want)
	number, e := rub.Why(a, b)
	wantValue(t, "Why", number, e, 0, want)
	for _, k := range edges() {
		wantErrno(t, "Proves", rub.Proves(a, b, k), want)
	}
	number, e = rub.Fewest(a, b)
	wantValue(t, "Fewest", number, e, 0, want)
	i, j, e := rub.First(a, b)
	wantPlaces(t, "First", i, j, e, 0, 0, want)
	number, e = rub.Longest(a, b)
	wantValue(t, "Longest", number, e, 0, want)
	row, e := rub.Meet(a, b)
	wantList(t, "Meet", row, e, nil, want)
	row, e = rub.Join(a, b)
	wantList(t, "Join", row, e, nil, want)
	if t.Failed() {
		t.Fatalf("rows %v and %v", a, b)
	}
}

func TestRises(t *testing.T) { // P5.2
	for _, row := range allRows(6) {
		var want []int
		for k := range len(row) + 1 {
			want = append(want, riseOf(row, k))
		}
		rises, e := rub.Rises(row)
		wantList(t, "Rises", rises, e, want, api.OK)
		if t.Failed() {
			t.Fatalf("row %v", row)
		}
	}
}

func TestRow(t *testing.T) { // P5.2
	for i, x := range []struct {
		rises, want []int
		e           api.Errno
	}{
		{list(0, 0), list(0), api.OK},
		{list(0, 8), list(8), api.OK},
		{list(0, 8, 16, 24, 32, 40, 48), list(8, 8, 8, 8, 8, 8), api.OK},
		{nil, nil, api.ErrEmpty},
		{list(0), nil, api.ErrEmpty},
		{list(1), nil, api.ErrEmpty}, // ErrShape as well
		{list(1, 1), nil, api.ErrShape},
		{list(-1, 0), nil, api.ErrShape},
		{list(1, 0, 0, 0, 0, 0, 0, 0), nil, api.ErrShape}, // ErrMany as well
		{list(0, 9, 9, 9, 9, 9, 9, 9), nil, api.ErrMany},  // ErrRange as well
		{list(0, 9), nil, api.ErrRange},
		{list(0, -1), nil, api.ErrRange},
		{list(0, 4, 3), nil, api.ErrRange},
		{list(0, 4, 13), nil, api.ErrRange}, // ErrOrder as well
		{list(0, 4, 9), nil, api.ErrOrder},
		{list(0, 1, 3, 99), nil, api.ErrOrder},
		{list(0, 9, 19), nil, api.ErrRange},
		{list(0, 4, smallest), nil, api.ErrRange},
		{list(0, smallest, smallest+1), nil, api.ErrRange},
		{list(0, greatest, smallest), nil, api.ErrRange},
	} {
		row, e := rub.Row(x.rises)
		if !slices.Equal(row, x.want) || e != x.e {
			t.Errorf("Row %d: %v with error %d, want %v with %d", i, row, e, x.want, x.e)
		}
	}
}

func TestRowOfAnyRises(t *testing.T) { // P5.2
	seen := map[api.Errno]int{}
	for number := range 9 {
		of := edges()
		if number > 4 {
			of = list(0, 2, 3)
		}
		for _, rises := range anyLists(number, of) {
			want := checkRisesOf(rises)
			seen[want]++
			row, e := rub.Row(rises)
			if e != want || want != api.OK && len(row) > 0 {
				t.Fatalf("Row of %v: %v with error %d, want %d", rises, row, e, want)
			}
		}
	}
	if len(seen) != 6 {
		t.Errorf("not each error was seen: %v", seen)
	}
}

func TestRub(t *testing.T) { // P5.3
	places := list(smallest, -1, 0, 1, 2, 3, 4, greatest)
	for _, row := range allRows(4) {
		for _, i := range places {
			for _, j := range places {
				want, wantE := rubbedOf(row, i, j)
				rubbed, e := rub.Rub(row, i, j)
				wantList(t, "Rub", rubbed, e, want, wantE)
				if t.Failed() {
					t.Fatalf("row %v: %d and %d", row, i, j)
				}
			}
		}
	}
}

// rubbedOf returns the row after a rubbing, or what is wrong with the places.
func rubbedOf(row []int, i, j int) ([]int, api.Errno) {
	if i < 0 || i >= len(row) || j < 0 || j >= len(row) {
		return nil, api.ErrNone
	}
	if j <= i {
		return nil, api.ErrOrder
	}
	if rubbed := rubOf(row, i, j); rubbed != nil {
		return rubbed, api.OK
	}
	return nil, api.ErrClash
}

func TestRubOfLongRows(t *testing.T) { // P5.3
	r := newRandom()
	for range 5000 {
		row := randomRow(r, 5+r.IntN(2))
		i, j := r.IntN(7), r.IntN(7)
		want, wantE := rubbedOf(row, i, j)
		rubbed, e := rub.Rub(row, i, j)
		wantList(t, "Rub", rubbed, e, want, wantE)
		if t.Failed() {
			t.Fatalf("row %v: %d and %d", row, i, j)
		}
	}
}

func TestFlat(t *testing.T) { // P5.6
	for _, row := range allRows(6) {
		flat, e := rub.Flat(row)
		wantErrno(t, "Flat", e, api.OK)
		wantErrno(t, "Check of Flat", checkTwoOf(row, flat), api.OK)
		if t.Failed() || flat[0]-flat[len(flat)-1] > 1 {
			t.Fatalf("Flat of %v: %v", row, flat)
		}
	}
}

func TestTurned(t *testing.T) { // P5.10
	for _, row := range allRows(6) {
		var want []int
		wantE := api.OK
		switch {
		case row[0] == 0:
			wantE = api.ErrOpen
		case row[0] > 6:
			wantE = api.ErrMany
		default:
			want = turnedOf(row)
		}
		turned, e := rub.Turned(row)
		wantList(t, "Turned", turned, e, want, wantE)
		if t.Failed() {
			t.Fatalf("row %v", row)
		}
	}
}

func TestPower(t *testing.T) { // P5.10
	for _, row := range allRows(6) {
		for power := 1; power <= 4; power++ {
			sum, e := rub.Power(row, power)
			wantValue(t, "Power", sum, e, powerOf(row, power), api.OK)
		}
		for _, power := range list(smallest, -1, 0, 5, greatest) {
			sum, e := rub.Power(row, power)
			wantValue(t, "Power", sum, e, 0, api.ErrRange)
		}
		if t.Failed() {
			t.Fatalf("row %v", row)
		}
	}
}
