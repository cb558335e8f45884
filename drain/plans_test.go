package drain_test

import (
	"slices"
	"testing"

	"novaculite/api"
	"novaculite/drain"
)

func TestValid(t *testing.T) { // P2.3
	ring := hill(3, 0, 1, 1, 1, 2, 1, 2, 0, 1, 0, 3, 1, 2, 3, 1)
	for i, x := range []struct {
		h    drain.Hill
		plan []int
		want api.Errno
	}{
		{hillL(), list(0), api.OK},
		{hillL(), nil, api.ErrOpen},
		{hill(2), nil, api.ErrOpen},
		{hill(2), list(0), api.ErrNone},
		{ring, list(0, 1, 2), api.ErrClash},
		{ring, list(0, 1, 4), api.OK},
		{ring, list(1, 2, 3), api.OK},
		{ring, list(1, 3, 4), api.OK},
		{ring, list(1, 4), api.ErrOpen},
		{ring, list(0, 3), api.ErrTwice},
		{ring, list(0, 1, 3, 9), api.ErrTwice},
		{ring, list(0, 1, 2, 2), api.ErrOrder},
		{ring, list(0, 1, 2, 4), api.ErrTwice},
		{ring, list(0, 0), api.ErrOrder},
		{ring, list(2, 0, 9), api.ErrOrder},
		{ring, list(2, 9, 0), api.ErrNone},
		{ring, list(-1), api.ErrNone},
		{ring, list(3, -1), api.ErrNone},
		{ring, list(5), api.ErrNone},
		{ring, list(greatest), api.ErrNone},
		{ring, list(smallest), api.ErrNone},
		{ring, make([]int, 1000), api.ErrOrder},
		{hill(3, 0, 3, 1, 1, 2, 1, 2, 1, 1), list(0, 1, 2), api.ErrClash},
	} {
		if e := drain.Valid(x.h, x.plan); e != x.want {
			t.Errorf("Valid %d: error %d, want %d", i, e, x.want)
		}
		if n, e := drain.Cost(x.h, x.plan); e != x.want || e != api.OK && n != 0 {
			t.Errorf("Cost %d: %d with error %d, want %d", i, n, e, x.want)
		}
		if l, e := drain.Way(x.h, x.plan, 0); e != x.want || e != api.OK && len(l) > 0 {
			t.Errorf("Way %d: %v with error %d, want %d", i, l, e, x.want)
		}
	}
}

func TestValidTakesPlansAndNothingElse(t *testing.T) { // P2.3
	r := newRandom()
	for range 30 {
		h := randomHill(r)
		plans := plansOf(h)
		for mask := range 1 << len(h.Channels) {
			var l []int
			for i := range h.Channels {
				if mask>>i&1 == 1 {
					l = append(l, i)
				}
			}
			_, is := slices.BinarySearchFunc(plans, l, slices.Compare[[]int])
			if e := drain.Valid(h, l); (e == api.OK) != is {
				t.Fatalf("Valid of %v, %v: error %d", h, l, e)
			}
		}
	}
}

func TestCostAndWay(t *testing.T) { // P2.3, P2.15
	r := newRandom()
	for range 200 {
		h := randomHill(r)
		for _, plan := range plansOf(h) {
			n, e := drain.Cost(h, plan)
			wantNumber(t, "Cost", n, e, costOf(h, plan), api.OK)
			for g := range h.Galleries {
				l, e := drain.Way(h, plan, g)
				wantErrno(t, "Way", e, api.OK)
				checkWay(t, h, plan, g, l)
			}
		}
	}
}

// checkWay checks that a way begins at a gallery, follows the plan's channels
// up to the mouth, and is no longer than it may be.
func checkWay(t *testing.T, h drain.Hill, plan []int, from int, way []int) {
	t.Helper()
	if len(way) < 2 || len(way) > h.Galleries+1 || way[0] != from || way[len(way)-1] != h.Galleries {
		t.Fatalf("way from %d of %v by %v: %v", from, h, plan, way)
	}
	for i := range len(way) - 1 {
		if !slices.ContainsFunc(plan, func(c int) bool { return h.Channels[c][0] == way[i] && h.Channels[c][1] == way[i+1] }) {
			t.Fatalf("way from %d of %v by %v: %v has no channel at %d", from, h, plan, way, i)
		}
	}
	for i, g := range way[:len(way)-1] {
		rest, e := drain.Way(h, plan, g)
		wantList(t, "Way of a place on a way", rest, e, way[i:], api.OK)
	}
}

func TestWayErrors(t *testing.T) { // P2.3
	for _, g := range list(3, 4, -1, greatest, smallest) {
		l, e := drain.Way(hillH(), list(0, 3, 4), g)
		wantList(t, "Way", l, e, nil, api.ErrNone)
		l, e = drain.Way(hillH(), list(0, 3), g)
		wantList(t, "Way by no plan", l, e, nil, api.ErrOpen)
	}
	l, e := drain.Way(hill(6, 0, 1, 1, 1, 2, 1, 2, 3, 1, 3, 4, 1, 4, 5, 1, 5, 6, 1), list(0, 1, 2, 3, 4, 5), 0)
	wantList(t, "Way of a long hill", l, e, list(0, 1, 2, 3, 4, 5, 6), api.OK)
}

func TestCheapest(t *testing.T) { // P2.4
	for i, x := range []struct {
		h                   drain.Hill
		cheapest            []int
		least, count, equal int
	}{
		{hill(2, 0, 1, 0, 1, 0, 0, 0, 2, 0, 1, 2, 0), list(0, 3), 0, 3, 3},
		{hill(2, 1, 2, 0, 0, 2, 0, 1, 0, 0, 0, 1, 0), list(0, 1), 0, 3, 3},
		{hill(2, 0, 1, 1, 1, 0, 1, 0, 2, 20, 1, 2, 20), list(0, 3), 21, 3, 2},
		{hill(2, 0, 1, 1, 1, 0, 1, 0, 2, 20, 1, 2, 19), list(0, 3), 20, 3, 1},
		{hill(2, 0, 1, 1, 1, 0, 1, 0, 2, 19, 1, 2, 20), list(1, 2), 20, 3, 1},
		{hill(6, 0, 1, 20, 1, 2, 20, 2, 3, 20, 3, 4, 20, 4, 5, 20, 5, 6, 20), list(0, 1, 2, 3, 4, 5), 120, 1, 1},
	} {
		l, e := drain.Cheapest(x.h)
		if !slices.Equal(l, x.cheapest) || e != api.OK {
			t.Errorf("Cheapest %d: %v with error %d, want %v", i, l, e, x.cheapest)
		}
		n, e := drain.Least(x.h)
		wantNumber(t, "Least", n, e, x.least, api.OK)
		n, e = drain.Count(x.h)
		wantNumber(t, "Count", n, e, x.count, api.OK)
		n, e = drain.Equal(x.h)
		wantNumber(t, "Equal", n, e, x.equal, api.OK)
	}
}

func TestNoPlan(t *testing.T) { // P2.4, P2.5, P2.6, P2.7
	for _, h := range []drain.Hill{hill(1), hill(3), hillK(), hill(3, 0, 3, 1, 1, 2, 1, 2, 1, 1)} {
		n, e := drain.Count(h)
		wantNumber(t, "Count", n, e, 0, api.OK)
		n, e = drain.Most(h)
		wantNumber(t, "Most", n, e, 0, api.OK)
		l, e := drain.Cheapest(h)
		wantList(t, "Cheapest", l, e, nil, api.ErrLost)
		n, e = drain.Least(h)
		wantNumber(t, "Least", n, e, 0, api.ErrLost)
		n, e = drain.Equal(h)
		wantNumber(t, "Equal", n, e, 0, api.ErrLost)
		l, e = drain.Needed(h)
		wantList(t, "Needed", l, e, nil, api.ErrLost)
		d, e := drain.Dues(h)
		wantDues(t, "Dues", d, e, nil, api.ErrLost)
		plans, e := drain.Apart(h, 1)
		wantLists(t, "Apart", plans, e, nil, api.ErrLost)
		for i := range h.Channels {
			n, e = drain.Without(h, i)
			wantNumber(t, "Without", n, e, 0, api.ErrLost)
			n, e = drain.Price(h, i)
			wantNumber(t, "Price", n, e, 0, api.ErrLost)
		}
	}
}

func TestPlansOfRandomHills(t *testing.T) { // P2.4
	r := newRandom()
	for range 300 {
		h := randomHill(r)
		n, e := drain.Count(h)
		wantNumber(t, "Count", n, e, len(plansOf(h)), api.OK)
		if n == 0 {
			continue
		}
		cheapest, least := cheapestOf(h)
		l, e := drain.Cheapest(h)
		wantList(t, "Cheapest", l, e, cheapest[0], api.OK)
		n, e = drain.Least(h)
		wantNumber(t, "Least", n, e, least, api.OK)
		n, e = drain.Equal(h)
		wantNumber(t, "Equal", n, e, len(cheapest), api.OK)
	}
}

func TestOneChannel(t *testing.T) { // P2.5
	dear := hill(2, 0, 1, 20, 1, 2, 20, 0, 2, 1, 1, 0, 20)
	for i, x := range []struct {
		h              drain.Hill
		channel        int
		without, price int
		e, f           api.Errno
	}{
		{hillH(), 0, 1, 2, api.OK, api.OK},
		{hillH(), 4, 1, 3, api.OK, api.OK},
		{hillH(), 5, 0, 2, api.OK, api.OK},
		{dear, 0, 0, 1, api.OK, api.OK},
		{dear, 2, 19, 20, api.OK, api.OK},
		{hill(2, 1, 0, 5, 0, 2, 20, 0, 1, 0, 1, 2, 0), 0, 0, -20, api.OK, api.OK},  // below 0
		{hill(2, 0, 1, 0, 1, 0, 20, 0, 2, 20, 1, 2, 0), 3, 40, 40, api.OK, api.OK}, // above MaxCost
		{hill(2, 0, 2, 5, 1, 2, 5, 1, 0, 5), 0, 0, 0, api.ErrLost, api.ErrClash},
		{hill(2, 0, 2, 5, 1, 0, 5, 0, 1, 5), 2, 0, 0, api.OK, api.ErrLost}, // in no plan
		{hill(2, 0, 1, 5), 0, 0, 0, api.ErrLost, api.ErrLost},
		{hillH(), 6, 0, 0, api.ErrNone, api.ErrNone},
		{hillH(), -1, 0, 0, api.ErrNone, api.ErrNone},
		{hillH(), greatest, 0, 0, api.ErrNone, api.ErrNone},
		{hillH(), smallest, 0, 0, api.ErrNone, api.ErrNone},
		{hillK(), 2, 0, 0, api.ErrNone, api.ErrNone},
		{hill(1), 0, 0, 0, api.ErrNone, api.ErrNone},
	} {
		if n, e := drain.Without(x.h, x.channel); n != x.without || e != x.e {
			t.Errorf("Without %d: %d with error %d, want %d with %d", i, n, e, x.without, x.e)
		}
		if n, e := drain.Price(x.h, x.channel); n != x.price || e != x.f {
			t.Errorf("Price %d: %d with error %d, want %d with %d", i, n, e, x.price, x.f)
		}
	}
}

func TestOneChannelOfRandomHills(t *testing.T) { // P2.5
	r := newRandom()
	for range 150 {
		h := drainedHill(r)
		l, e := drain.Needed(h)
		wantList(t, "Needed", l, e, neededOf(h), api.OK)
		_, least := cheapestOf(h)
		for i := range h.Channels {
			want, wantE := 0, api.ErrLost
			others := lacking(h, i)
			if _, least2 := cheapestOf(others); least2 != greatest {
				want, wantE = least2-least, api.OK
			}
			n, e := drain.Without(h, i)
			wantNumber(t, "Without", n, e, want, wantE)
			want, wantE = priceOf(h, i)
			n, e = drain.Price(h, i)
			wantNumber(t, "Price", n, e, want, wantE)
		}
	}
}

// priceOf tries all costs, from one that is too great on.
func priceOf(h drain.Hill, channel int) (int, api.Errno) {
	if !inSome(plansOf(h), channel) {
		return 0, api.ErrLost
	}
	if slices.Contains(neededOf(h), channel) {
		return 0, api.ErrClash
	}
	plans := plansOf(h)
	for price := 300; ; price-- {
		priced := costing(h, channel, price)
		least := greatest
		for _, plan := range plans {
			least = min(least, costOf(priced, plan))
		}
		if slices.ContainsFunc(plans, func(plan []int) bool {
			return slices.Contains(plan, channel) && costOf(priced, plan) == least
		}) {
			return price, api.OK
		}
	}
}

func TestApart(t *testing.T) { // P2.7
	full := hill(3, 0, 1, 0, 0, 2, 0, 0, 3, 0, 1, 0, 0, 1, 2, 0, 1, 3, 0, 2, 0, 0, 2, 1, 0, 2, 3, 0)
	for i, x := range []struct {
		h     drain.Hill
		plans int
		want  [][]int
		e     api.Errno
	}{
		{hillL(), 1, [][]int{{0}}, api.OK},
		{hillL(), 2, nil, api.ErrLost},
		{hillH(), 1, [][]int{{0, 3, 4}}, api.OK},
		{hillH(), 4, nil, api.ErrLost},
		{full, 1, [][]int{{0, 4, 8}}, api.OK},
		{full, 3, [][]int{{0, 4, 8}, {1, 5, 7}, {2, 3, 6}}, api.OK},
		{full, 4, nil, api.ErrLost},
		{hill(2, 0, 2, 1, 1, 2, 1, 0, 1, 1, 1, 0, 1), 2, [][]int{{0, 3}, {1, 2}}, api.OK}, // the plan 0, 1 is in no such list
		{hillH(), 0, nil, api.ErrRange},
		{hillH(), -1, nil, api.ErrRange},
		{hillH(), greatest, nil, api.ErrRange},
		{hillH(), smallest, nil, api.ErrRange},
		{hillK(), 5, nil, api.ErrRange},
	} {
		l, e := drain.Apart(x.h, x.plans)
		if !slices.EqualFunc(l, x.want, slices.Equal[[]int]) || e != x.e {
			t.Errorf("Apart %d: %v with error %d, want %v with %d", i, l, e, x.want, x.e)
		}
	}
}

func TestApartOfRandomHills(t *testing.T) { // P2.7
	r := newRandom()
	for range 100 {
		h := randomHill(r)
		most := 0
		for number := 1; number <= drain.MaxPlans; number++ {
			var want [][]int
			wantE := api.ErrLost
			if lists := apartOf(h, number); len(lists) > 0 {
				want, wantE = lists[0], api.OK
				most = number
			}
			l, e := drain.Apart(h, number)
			wantLists(t, "Apart", l, e, want, wantE)
		}
		n, e := drain.Most(h)
		wantNumber(t, "Most", n, e, most, api.OK)
	}
}
