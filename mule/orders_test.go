package mule_test

import (
	"math/rand/v2"
	"slices"
	"testing"

	"novaculite/api"
	"novaculite/mule"
)

// wantOrderError wants an error of an order from all functions that have one, though
// their other arguments are wrong.
func wantOrderError(t *testing.T, c mule.Caravan, order []int, want api.Errno) {
	t.Helper()
	for _, days := range [][]int{nil, make([]int, len(c.Loads)), worstOf(c)} {
		for _, got := range answers(told{c: c, order: order, days: days, snow: -1})[:5] {
			if got.e != want || !got.isNothing() {
				t.Errorf("order %v of %v: %v, want error %d", order, c, got, want)
			}
		}
	}
}

func TestOrderErrors(t *testing.T) { // P11.2, R1, R2
	ring := alike(3, 2, 1, 1, 0) // 2 goes before 0 over 1
	for _, x := range []struct {
		c     mule.Caravan
		order []int
		want  api.Errno
	}{
		{caravanC(), nil, api.ErrShape},
		{caravanC(), list(9, 9), api.ErrShape},
		{caravanC(), list(0, 1, 2, 0), api.ErrShape},
		{caravanC(), make([]int, 1000), api.ErrShape},
		{caravanC(), list(3, 0, 0), api.ErrNone},
		{caravanC(), list(-1, 0, 0), api.ErrNone},
		{caravanC(), list(0, 1, greatest), api.ErrNone},
		{caravanC(), list(0, smallest, 0), api.ErrNone},
		{caravanC(), list(6, 0, 0), api.ErrNone},
		{caravanC(), list(0, 0, 3), api.ErrTwice},
		{caravanC(), list(0, 1, 0), api.ErrTwice},
		{caravanC(), list(2, 2, 9), api.ErrOpen},
		{caravanC(), list(1, 2, 1), api.ErrOpen},
		{caravanC(), list(1, 1, 2), api.ErrTwice},
		{caravanC(), list(1, 2, 0), api.ErrOpen},
		{ring, list(2, 0, 1), api.ErrOpen},
		{ring, list(0, 2, 1), api.ErrOpen},
		{ring, list(1, 2, 0), api.ErrOpen},
		{alike(2, 1, 0), list(0, 1), api.ErrOpen},
		{full(), list(5, 4, 3, 2, 0, 1), api.ErrOpen},
		{alike(1), list(1), api.ErrNone},
	} {
		wantOrderError(t, x.c, x.order, x.want)
	}
	for _, x := range []struct {
		c     mule.Caravan
		order []int
	}{
		{ring, list(2, 1, 0)}, {full(), list(5, 4, 3, 2, 1, 0)}, {alike(1), list(0)}, {alike(2, 1, 0), list(1, 0)},
		{caravanC(), list(0, 1, 2)}, {caravanC(), list(0, 2, 1)}, {alike(6), list(3, 5, 1, 0, 2, 4)},
	} {
		wantErrno(t, "Valid", mule.Valid(x.c, x.order), api.OK)
	}
}

func TestAllListsOfThree(t *testing.T) { // P11.2, P11.3
	var lists [][]int
	for i := range 125 {
		lists = append(lists, list(i/25-1, i/5%5-1, i%5-1))
	}
	for _, pairs := range allPairs(3) {
		c := alike(3)
		c.Before = pairs
		if mule.Check(c) != api.OK {
			continue
		}
		for _, order := range lists {
			if want := validOf(c, order); want == api.OK {
				wantErrno(t, "Valid", mule.Valid(c, order), api.OK)
			} else {
				wantOrderError(t, c, order, want)
			}
		}
		wantOrders(t, c)
	}
}

func TestRandomOrders(t *testing.T) { // P11.2
	seen := map[api.Errno]int{}
	forCaravans(100, func(r *rand.Rand, c mule.Caravan) {
		for range 10 {
			order := r.Perm(len(c.Loads))
			if r.IntN(2) == 0 {
				order = slices.Clone(anyOf(r, ordersOf(c)))
			}
			if r.IntN(3) == 0 {
				order[r.IntN(len(order))] = anyOf(r, edges())
			}
			e := mule.Valid(c, order)
			wantErrno(t, "Valid", e, validOf(c, order))
			seen[e]++
		}
	})
	for _, e := range []api.Errno{api.OK, api.ErrNone, api.ErrTwice, api.ErrOpen} {
		if seen[e] < 100 {
			t.Errorf("errors: %v", seen)
		}
	}
}

func wantOrders(t *testing.T, c mule.Caravan) {
	t.Helper()
	orders := ordersOf(c)
	l, e := mule.First(c)
	wantList(t, "First", l, e, orders[0], api.OK)
	n, e := mule.Count(c)
	wantNumber(t, "Count", n, e, len(orders), api.OK)
}

func TestFirstAndCount(t *testing.T) { // P11.3
	for _, x := range []struct {
		c     mule.Caravan
		first []int
		count int
	}{
		{alike(1), list(0), 1},
		{alike(2, 1, 0), list(1, 0), 1},
		{alike(6), list(0, 1, 2, 3, 4, 5), 720},
		{full(), list(5, 4, 3, 2, 1, 0), 1},
		{alike(3, 2, 1, 1, 0), list(2, 1, 0), 1},
		{alike(3, 2, 0), list(1, 2, 0), 3},
		{alike(4, 0, 1, 2, 3), list(0, 1, 2, 3), 6},
		{alike(5, 4, 0), list(1, 2, 3, 4, 0), 60},
		{alike(6, 5, 0, 5, 1, 5, 2, 5, 3, 5, 4), list(5, 0, 1, 2, 3, 4), 120},
	} {
		l, e := mule.First(x.c)
		wantList(t, "First", l, e, x.first, api.OK)
		n, e := mule.Count(x.c)
		wantNumber(t, "Count", n, e, x.count, api.OK)
	}
}

func TestOrdersOfFour(t *testing.T) { // P11.3
	for _, pairs := range allPairs(4) {
		c := alike(4)
		c.Before = pairs
		if mule.Check(c) == api.OK {
			wantOrders(t, c)
		}
	}
}

func TestOrdersOfRandomCaravans(t *testing.T) { // P11.3
	forCaravans(60, func(_ *rand.Rand, c mule.Caravan) { wantOrders(t, c) })
}
