package grade_test

import (
	"slices"
	"testing"

	"novaculite/api"
	"novaculite/grade"
)

// forAllOrders tells a check of all orders.
func forAllOrders(t *testing.T, check func(j judged)) {
	t.Helper()
	for _, orders := range allJudged() {
		for _, j := range orders {
			check(j)
			if t.Failed() {
				t.Fatalf("order %v", j.order())
			}
		}
	}
}

func TestCheck(t *testing.T) { // P6.1
	for i, x := range []struct {
		o    grade.Order
		want api.Errno
	}{
		{order(1), api.OK},
		{order(5), api.OK},
		{order(2, 1, 0), api.OK},
		{order(3, 0, 1, 1, 2, 2, 0), api.OK},
		{order(5, 0, 1, 0, 2, 0, 3, 0, 4, 1, 2, 1, 3, 1, 4, 2, 3, 2, 4, 3, 4), api.OK},
		{order(0), api.ErrRange},
		{order(6, 0, 1), api.ErrRange},
		{order(smallest, 0, 0), api.ErrRange}, // ErrNone as well
		{order(greatest), api.ErrRange},
		{grade.Order{Stones: 0, Sharper: make([][2]int, 11)}, api.ErrRange}, // ErrMany as well
		{grade.Order{Stones: 2, Sharper: make([][2]int, 11)}, api.ErrMany},  // ErrClash as well
		{grade.Order{Stones: 2, Sharper: make([][2]int, 10)}, api.ErrClash},
		{order(3, 0, 3), api.ErrNone},
		{order(3, 3, 0), api.ErrNone},
		{order(3, -1, 0), api.ErrNone},
		{order(3, 4, 4), api.ErrNone}, // ErrClash as well
		{order(3, 0, greatest), api.ErrNone},
		{order(3, smallest, 0), api.ErrNone},
		{order(3, 2, 2), api.ErrClash},
		{order(1, 0, 0), api.ErrClash},
		{order(3, 0, 1, 0, 1), api.ErrTwice},
		{order(3, 0, 1, 1, 0), api.ErrTwice},
		{order(3, 0, 1, 1, 2, 1, 0), api.ErrTwice},
		{order(3, 0, 1, 0, 1, 9, 9), api.ErrTwice},
		{order(3, 0, 1, 2, 2, 0, 1), api.ErrClash},
		{order(3, 0, 1, 2, 3, 2, 2), api.ErrNone},
	} {
		if e := grade.Check(x.o); e != x.want {
			t.Errorf("Check %d: %d, want %d", i, e, x.want)
		}
	}
}

func TestCheckOfAllPairs(t *testing.T) { // P6.1
	seen := map[api.Errno]int{}
	for _, stones := range edges() {
		for number := range 4 {
			of := list(smallest, -1, 0, 1, 4, 5, greatest)
			if number > 1 {
				of = list(-1, 0, 1, 2)
			}
			for _, l := range anyLists(2*number, of) {
				o := order(stones, l...)
				want := checkOf(o)
				seen[want]++
				if e := grade.Check(o); e != want {
					t.Fatalf("Check of %v: %d, want %d", o, e, want)
				}
			}
		}
	}
	if len(seen) != 5 {
		t.Errorf("not each error was seen: %v", seen)
	}
}

// wrongOrders are orders with an error, one with each.
func wrongOrders() []grade.Order {
	return []grade.Order{order(0), order(6, 0, 1), {Stones: 2, Sharper: make([][2]int, 11)}, order(3, 0, 3), order(3, 1, 1), order(3, 0, 1, 1, 0)}
}

func TestErrorsOfOrdersComeFirst(t *testing.T) { // P6.1, P6.6
	for _, o := range wrongOrders() {
		want := checkOf(o)
		wantErrno(t, "Check", grade.Check(o), want)
		number, e := grade.Kind(o)
		wantValue(t, "Kind", number, e, 0, want)
		l, e := grade.Two(o)
		wantList(t, "Two", l, e, nil, want)
		l, e = grade.Three(o)
		wantList(t, "Three", l, e, nil, want)
		wantErrno(t, "Against", grade.Against(o, nil), want)
		intervals, e := grade.Intervals(o)
		wantList(t, "Intervals", intervals, e, nil, want)
		wantErrno(t, "Spans", grade.Spans(o, make([][2]int, 9)), want)
		number, e = grade.Step(o)
		wantValue(t, "Step", number, e, 0, want)
		l, e = grade.Numbers(o, 0)
		wantList(t, "Numbers", l, e, nil, want)
		wantErrno(t, "Measures", grade.Measures(o, 0, nil), want)
		l, e = grade.Ranks(o)
		wantList(t, "Ranks", l, e, nil, want)
		is, e := grade.Agrees(o, make([]grade.Claim, 9))
		wantValue(t, "Agrees", is, e, false, want)
		if t.Failed() {
			t.Fatalf("order %v", o)
		}
	}
}

func TestKindTwoThree(t *testing.T) { // P6.1, P6.2
	forAllOrders(t, func(j judged) {
		kind, e := grade.Kind(j.told())
		wantValue(t, "Kind", kind, e, j.kind(), api.OK)
		want := j.first(4, j.isTwoAndTwo)
		four, e := grade.Two(j.told())
		wantList(t, "Two", four, e, want, errorUnless(want != nil, api.ErrClash))
		want = j.first(4, j.isThreeAndOne)
		four, e = grade.Three(j.told())
		wantList(t, "Three", four, e, want, errorUnless(want != nil, api.ErrClash))
	})
}

// wantAgainst compares Against with what the chapter says of four stones.
func wantAgainst(t *testing.T, j judged, four []int) {
	t.Helper()
	is := j.isTwoAndTwo(four) || j.isThreeAndOne(four)
	wantErrno(t, "Against", grade.Against(j.told(), four), errorUnless(is, api.ErrProof))
	if t.Failed() {
		t.Fatalf("order %v, stones %v", j.order(), four)
	}
}

func TestAgainst(t *testing.T) { // P6.2
	for stones := range grade.MaxStones {
		for _, j := range allJudged()[stones] {
			for _, four := range stoneLists()[stones][4] {
				wantAgainst(t, j, four)
			}
		}
	}
	r := newRandom()
	for range 100000 {
		wantAgainst(t, anyOf(r, allJudged()[5]), anyOf(r, stoneLists()[5][4]))
	}
}

func TestAgainstOfWrongStones(t *testing.T) { // P6.2
	for stones := 1; stones <= grade.MaxStones; stones++ {
		for _, four := range [][]int{nil, list(0), list(0, 0, 0), list(-1, 9, 9), list(0, 0, 0, 0, 0), list(9, 9, 9, 9, 9)} {
			wantErrno(t, "Against of other lengths", grade.Against(order(stones), four), api.ErrShape)
		}
		for place := range 4 {
			for _, stone := range list(smallest, -1, stones, greatest) {
				four := list(0, 0, 0, 0)
				four[place] = stone
				wantErrno(t, "Against of no stone", grade.Against(order(stones), four), api.ErrNone)
			}
		}
	}
}

func TestRanks(t *testing.T) { // P6.5
	forAllOrders(t, func(j judged) {
		var want []int
		if hasNumbers(j) {
			want = j.ranks()
		}
		ranks, e := grade.Ranks(j.told())
		wantList(t, "Ranks", ranks, e, want, errorUnless(want != nil, api.ErrLost))
	})
}

func TestOf(t *testing.T) { // P6.5
	for number := 1; number <= grade.MaxStones; number++ {
		of := list(0, 1, 2, 9, 49, 50)
		if number > 3 {
			of = list(0, 1, 3, 50)
		}
		for _, numbers := range anyLists(number, of) {
			for step := 1; step <= grade.MaxStep; step++ {
				o, e := grade.Of(step, numbers)
				wantOrder(t, "Of", o, e, judged{number, tableOfNumbers(step, numbers)}.order(), api.OK)
				if t.Failed() {
					t.Fatalf("step %d, numbers %v", step, numbers)
				}
			}
		}
	}
}

func TestOfWrongNumbers(t *testing.T) { // P6.5
	for _, step := range list(smallest, -1, 0, 10, greatest) {
		for _, numbers := range [][]int{nil, list(1), list(-1), make([]int, 6)} {
			o, e := grade.Of(step, numbers)
			wantOrder(t, "Of a step out of bounds", o, e, grade.Order{}, api.ErrRange)
		}
	}
	for step := 1; step <= grade.MaxStep; step++ {
		for _, numbers := range [][]int{nil, list()} {
			o, e := grade.Of(step, numbers)
			wantOrder(t, "Of no numbers", o, e, grade.Order{}, api.ErrEmpty)
		}
		for _, numbers := range [][]int{make([]int, 6), list(-1, 51, 0, 0, 0, 0, 0)} {
			o, e := grade.Of(step, numbers)
			wantOrder(t, "Of many numbers", o, e, grade.Order{}, api.ErrMany)
		}
		for number := 1; number <= grade.MaxStones; number++ {
			for place := range number {
				for _, wrong := range list(smallest, -1, 51, greatest) {
					numbers := slices.Repeat(list(50), number)
					numbers[place] = wrong
					o, e := grade.Of(step, numbers)
					wantOrder(t, "Of a number out of bounds", o, e, grade.Order{}, api.ErrRange)
				}
			}
		}
	}
}
