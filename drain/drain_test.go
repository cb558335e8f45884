package drain_test

import (
	"slices"
	"testing"

	"novaculite/api"
	"novaculite/drain"
)

// calls returns what each function but Check answers besides the error, by its
// length or as a number, and the errors. The other arguments have errors too.
func calls(h drain.Hill) (results []int, errors []api.Errno) {
	add := func(result int, e api.Errno) {
		results = append(results, result)
		errors = append(errors, e)
	}
	addList := func(l []int, e api.Errno) { add(len(l), e) }
	addList(drain.Stuck(h))
	addList(drain.Trap(h))
	addList(drain.Leaves(h, nil))
	add(0, drain.Valid(h, list(-1)))
	add(drain.Cost(h, list(-1)))
	addList(drain.Way(h, list(-1), -1))
	addList(drain.Cheapest(h))
	add(drain.Least(h))
	add(drain.Count(h))
	add(drain.Equal(h))
	addList(drain.Needed(h))
	add(drain.Without(h, -1))
	add(drain.Price(h, -1))
	dues, e := drain.Dues(h)
	add(len(dues), e)
	addList(drain.Charged(h, make([]drain.Due, 21)))
	add(0, drain.Proves(h, list(-1), make([]drain.Due, 21)))
	group, channels, e := drain.Narrow(h)
	add(len(group)+channels, e)
	plans, e := drain.Apart(h, 0)
	add(len(plans), e)
	add(drain.Most(h))
	return results, errors
}

func TestCheck(t *testing.T) { // P2.1
	most := hill(6, 0, 1, 0, 0, 2, 0, 0, 3, 0, 0, 4, 0, 0, 5, 0, 0, 6, 0, 1, 0, 20, 1, 2, 20, 1, 3, 20, 1, 4, 20, 1, 5, 20, 1, 6, 20, 2, 0, 1, 2, 1, 1)
	more := copyOf(most)
	more.Channels = append(more.Channels, [3]int{2, 3, 1})
	for i, x := range []struct {
		h    drain.Hill
		want api.Errno
	}{
		{hill(1), api.OK},
		{hill(6), api.OK},
		{most, api.OK},
		{hill(2, 0, 1, 3, 1, 0, 3, 0, 2, 3, 1, 2, 3), api.OK},
		{hill(0), api.ErrRange},
		{hill(7), api.ErrRange},
		{hill(greatest), api.ErrRange},
		{hill(smallest), api.ErrRange},
		{drain.Hill{Galleries: 7, Channels: make([][3]int, 15)}, api.ErrRange},
		{hill(0, 0, 0, 99), api.ErrRange},
		{more, api.ErrMany},
		{drain.Hill{Galleries: 6, Channels: make([][3]int, 15)}, api.ErrMany},
		{hill(2, -1, 1, 0), api.ErrNone},
		{hill(2, 2, 1, 0), api.ErrNone},
		{hill(2, 2, 2, 0), api.ErrNone},
		{hill(2, 3, 3, 0), api.ErrNone},
		{hill(2, 0, -1, 0), api.ErrNone},
		{hill(2, 0, 3, 99), api.ErrNone},
		{hill(2, smallest, greatest, greatest), api.ErrNone},
		{hill(2, 1, 1, 21), api.ErrClash},
		{hill(2, 0, 1, 21), api.ErrRange},
		{hill(2, 0, 1, -1), api.ErrRange},
		{hill(2, 0, 1, smallest), api.ErrRange},
		{hill(2, 0, 1, 1, 1, 0, 1, 0, 1, 1), api.ErrTwice},
		{hill(2, 0, 1, 1, 0, 1, 21), api.ErrRange},
		{hill(2, 0, 1, 1, 0, 1, 1, 5, 5, 5), api.ErrTwice},
		{hill(2, 0, 1, 21, 5, 5, 5), api.ErrRange},
		{hill(2, 0, 0, 1, 0, 5, 1), api.ErrClash},
		{hill(2, 0, 5, 1, 0, 0, 1), api.ErrNone},
	} {
		if got := drain.Check(x.h); got != x.want {
			t.Errorf("Check %d: error %d, want %d", i, got, x.want)
		}
	}
}

func TestHillErrorsComeFirst(t *testing.T) { // P2.1
	for _, x := range []struct {
		h    drain.Hill
		want api.Errno
	}{
		{hill(0), api.ErrRange},
		{drain.Hill{Galleries: 1, Channels: make([][3]int, 15)}, api.ErrMany},
		{hill(1, 0, 2, 1), api.ErrNone},
		{hill(1, 0, 0, 1), api.ErrClash},
		{hill(1, 0, 1, 21), api.ErrRange},
		{hill(1, 0, 1, 1, 0, 1, 1), api.ErrTwice},
	} {
		results, errors := calls(x.h)
		for i, e := range errors {
			if e != x.want || results[i] != 0 {
				t.Errorf("call %d: %d with error %d, want 0 with %d", i, results[i], e, x.want)
			}
		}
	}
}

func TestStuckAndTrap(t *testing.T) { // P2.2
	for i, x := range []struct {
		h           drain.Hill
		stuck, trap []int
	}{
		{hill(3), list(0, 1, 2), list(0)},
		{hill(3, 0, 3, 1), list(1, 2), list(1)},
		{hill(3, 0, 1, 1, 1, 0, 1), list(0, 1, 2), list(2)},                                     // not 0 1
		{hill(4, 3, 2, 1, 2, 3, 1, 1, 0, 1, 0, 1, 1, 0, 2, 1), list(0, 1, 2, 3), list(2, 3)},    // not 0 1 2 3
		{hill(4, 0, 1, 1, 1, 0, 1, 2, 3, 1, 3, 2, 1), list(0, 1, 2, 3), list(0, 1)},             // not 2 3
		{hill(4, 0, 3, 1, 3, 0, 1, 2, 1, 1, 1, 2, 1), list(0, 1, 2, 3), list(0, 3)},             // not 1 2
		{hill(6, 0, 1, 1, 1, 2, 1, 2, 3, 1, 3, 4, 1, 4, 5, 1, 5, 6, 1), nil, nil},               // a long way
		{hill(6, 5, 4, 1, 4, 3, 1, 3, 2, 1, 2, 1, 1, 1, 0, 1, 0, 6, 1), nil, nil},               // a long way back
		{hill(6, 0, 1, 1, 1, 2, 1, 2, 3, 1, 3, 4, 1, 4, 5, 1), list(0, 1, 2, 3, 4, 5), list(5)}, // and none out
	} {
		l, e := drain.Stuck(x.h)
		if !slices.Equal(l, x.stuck) || e != api.OK {
			t.Errorf("Stuck %d: %v with error %d, want %v", i, l, e, x.stuck)
		}
		want := api.OK
		if x.trap == nil {
			want = api.ErrClash
		}
		l, e = drain.Trap(x.h)
		if !slices.Equal(l, x.trap) || e != want {
			t.Errorf("Trap %d: %v with error %d, want %v with %d", i, l, e, x.trap, want)
		}
	}
}

func TestGroupsOfRandomHills(t *testing.T) { // P2.2, P2.7
	r := newRandom()
	for range 500 {
		h := randomHill(r)
		l, e := drain.Stuck(h)
		wantList(t, "Stuck", l, e, stuckOf(h), api.OK)
		trap, want := trapOf(h), api.OK
		if trap == nil {
			want = api.ErrClash
		}
		l, e = drain.Trap(h)
		wantList(t, "Trap", l, e, trap, want)
		narrow, channels := narrowOf(h)
		l, n, e := drain.Narrow(h)
		wantList(t, "Narrow", l, e, narrow, api.OK)
		wantNumber(t, "Narrow", n, e, channels, api.OK)
		for _, group := range groupsOf(h) {
			l, e := drain.Leaves(h, group)
			wantList(t, "Leaves", l, e, leavingOf(h, group), api.OK)
		}
	}
}

func TestLeavesErrors(t *testing.T) { // P2.2
	for i, x := range []struct {
		group []int
		want  api.Errno
	}{
		{[]int{}, api.ErrEmpty},
		{list(3), api.ErrNone},
		{list(-1), api.ErrNone},
		{list(greatest), api.ErrNone},
		{list(smallest), api.ErrNone},
		{list(0, 3, 1), api.ErrNone},
		{list(2, -1), api.ErrNone},
		{list(1, 1), api.ErrOrder},
		{list(0, 2, 1), api.ErrOrder},
		{list(1, 0, 3), api.ErrOrder},
		{list(0, 1, 2, 0), api.ErrOrder},
		{make([]int, 1000), api.ErrOrder},
	} {
		if l, e := drain.Leaves(hillH(), x.group); len(l) > 0 || e != x.want {
			t.Errorf("Leaves %d: %v with error %d, want none with %d", i, l, e, x.want)
		}
	}
}

func TestNarrow(t *testing.T) { // P2.7
	for i, x := range []struct {
		h        drain.Hill
		group    []int
		channels int
	}{
		{hill(1), list(0), 0},
		{hill(3), list(0), 0}, // not 0 1, and so on
		{hill(2, 0, 1, 1, 0, 2, 1, 1, 0, 1, 1, 2, 1), list(0), 2},
		{hill(2, 0, 1, 1, 0, 2, 1, 1, 0, 1), list(0, 1), 1}, // not 1, and 0 has two
		{hill(2, 0, 1, 1, 1, 2, 1), list(0), 1},
		{hill(3, 0, 1, 1, 0, 3, 1, 1, 0, 1, 1, 2, 1, 2, 1, 1), list(0, 1, 2), 1}, // not 2
		{hill(3, 0, 1, 1, 0, 3, 1, 1, 0, 1, 2, 3, 1), list(0, 1), 1},             // 0 has two, 0 1 comes before 1
		{hill(3, 0, 1, 1, 0, 2, 1, 1, 2, 1, 2, 3, 1, 1, 3, 1), list(2), 1},       // 2 alone, the last one
	} {
		l, n, e := drain.Narrow(x.h)
		if !slices.Equal(l, x.group) || n != x.channels || e != api.OK {
			t.Errorf("Narrow %d: %v, %d with error %d, want %v, %d", i, l, n, e, x.group, x.channels)
		}
	}
}
