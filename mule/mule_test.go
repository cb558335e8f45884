package mule_test

import (
	"slices"
	"testing"

	"novaculite/api"
	"novaculite/mule"
)

// wantCheck wants the error of Check from all functions; their other arguments are
// wrong, too, or lists of a load.
func wantCheck(t *testing.T, c mule.Caravan, want api.Errno) {
	t.Helper()
	for _, a := range []told{
		{c: c, snow: -1, cost: -1},
		{c, list(9, 9, 9), list(0), list(-1), greatest, smallest},
		{c, list(0), list(1), list(0), 0, 0},
	} {
		for _, got := range answers(a) {
			if got.e != want || !got.isNothing() {
				t.Errorf("%v: %v, want error %d", c, got, want)
			}
		}
	}
}

func TestCaravanErrorsComeFirst(t *testing.T) { // P11.1, R1, R2
	d := caravanD().Loads
	wrong := loads(0, 1, 0, 0, 0)
	for _, x := range []struct {
		c    mule.Caravan
		want api.Errno
	}{
		{mule.Caravan{}, api.ErrEmpty},
		{mule.Caravan{Loads: []mule.Load{}}, api.ErrEmpty},
		{mule.Caravan{Before: make([][2]int, mule.MaxBefore+1)}, api.ErrEmpty},
		{caravan(nil, 0, 9), api.ErrEmpty},
		{alike(7), api.ErrMany},
		{caravan(make([]mule.Load, 7)), api.ErrMany},
		{caravan(make([]mule.Load, 1000)), api.ErrMany},
		{mule.Caravan{Loads: d, Before: make([][2]int, 16)}, api.ErrMany},
		{mule.Caravan{Loads: wrong, Before: make([][2]int, 16)}, api.ErrMany},
		{mule.Caravan{Loads: wrong, Before: make([][2]int, 15)}, api.ErrRange},
		{caravan(loads(2, 1, 0, 0, 0), 0, 1), api.ErrOrder},
		{caravan(loads(9, 8, 0, 0, 0)), api.ErrOrder},
		{caravan(loads(2, 1, 0, 0, 21)), api.ErrRange},
		{caravan(loads(2, 1, 0, 0, 0, 0, 1, 0, 0, 0)), api.ErrOrder},
		{caravan(loads(1, 1, 0, 0, 0, 2, 1, 0, 0, 0, 1, 10, 0, 0, 0)), api.ErrOrder},
		{caravan(loads(1, 1, 0, 0, 0, 1, 10, 0, 0, 0, 2, 1, 0, 0, 0)), api.ErrRange},
		{caravan(d, 0, 2), api.ErrNone},
		{caravan(d, 2, 0), api.ErrNone},
		{caravan(d, 0, -1), api.ErrNone},
		{caravan(d, -1, 0), api.ErrNone},
		{caravan(d, 0, greatest), api.ErrNone},
		{caravan(d, smallest, 0), api.ErrNone},
		{caravan(d, 0, 1, 0, 1, 0, 2), api.ErrTwice},
		{caravan(d, 0, 1, 0, 2, 0, 1), api.ErrNone},
		{caravan(d, 0, 2, 0, 2), api.ErrNone},
		{caravan(d, 0, 0, 0, 0), api.ErrTwice},
		{caravan(d, 0, 0, 0, 2), api.ErrNone},
		{caravan(d, 0, 1, 1, 0, 0, 1), api.ErrTwice},
		{caravan(d, 0, 0), api.ErrClash},
		{caravan(d, 1, 1), api.ErrClash},
		{caravan(d, 0, 1, 1, 0), api.ErrClash},
		{alike(6, 0, 1, 1, 2, 2, 3, 3, 4, 4, 5, 5, 0), api.ErrClash},
		{alike(6, 0, 1, 3, 4, 4, 5, 5, 3), api.ErrClash}, // 0 does not go before itself
	} {
		wantCheck(t, x.c, x.want)
	}
}

func TestCaravansWithoutErrors(t *testing.T) { // P11.1
	for _, c := range []mule.Caravan{
		caravanC(), caravanD(), long(), full(), alike(1), alike(6),
		caravan(loads(1, 1, 0, 0, 0)), caravan(loads(9, 9, 54, 9, 20)), caravan(loads(1, 9, 54, 0, 20)),
		alike(2, 0, 1), alike(2, 1, 0), alike(3, 0, 1, 1, 2, 0, 2), alike(3, 2, 1, 1, 0),
	} {
		wantErrno(t, "Check", mule.Check(c), api.OK)
	}
}

func TestNumbersOfLoads(t *testing.T) { // P11.1
	field := func(l *mule.Load, i int) *int {
		return []*int{&l.Least, &l.Most, &l.Due, &l.Rate, &l.Base}[i]
	}
	low, high := list(1, 1, 0, 0, 0), list(9, 9, 54, 9, 20)
	for place := range mule.MaxLoads {
		for i := range low {
			for _, n := range append(edges(), low[i]-1, low[i], high[i], high[i]+1, 8, 4, 19, 53) {
				c := caravan(slices.Repeat(loads(4, 5, 6, 7, 8), mule.MaxLoads))
				*field(&c.Loads[place], i) = n
				want := api.OK
				switch {
				case n < low[i] || n > high[i]:
					want = api.ErrRange
				case i == 0 && n > 5 || i == 1 && n < 4:
					want = api.ErrOrder
				}
				wantErrno(t, "Check", mule.Check(c), want)
			}
		}
	}
}

// checkOf returns the error that Check should return of pairs alone.
func checkOf(c mule.Caravan) api.Errno {
	for i, pair := range c.Before {
		if min(pair[0], pair[1]) < 0 || max(pair[0], pair[1]) >= len(c.Loads) {
			return api.ErrNone
		}
		if slices.Contains(c.Before[:i], pair) {
			return api.ErrTwice
		}
	}
	for load, ahead := range aheadOf(c) {
		if ahead[load] {
			return api.ErrClash
		}
	}
	return api.OK
}

func TestAllPairsOfThree(t *testing.T) { // P11.1
	seen := map[api.Errno]int{}
	for _, pairs := range allPairs(3) {
		c := alike(3)
		c.Before = pairs
		e := mule.Check(c)
		wantErrno(t, "Check", e, checkOf(c))
		seen[e]++
	}
	if seen[api.OK] != 25 || seen[api.ErrClash] != 39 {
		t.Errorf("errors: %v", seen)
	}
}

func TestRandomPairs(t *testing.T) { // P11.1
	r := newRandom()
	seen := map[api.Errno]int{}
	for range 4000 {
		c := alike(1 + r.IntN(mule.MaxLoads))
		c.Before = randomPairs(r, len(c.Loads))
		some := pairsOf(len(c.Loads) + r.IntN(2))
		for range r.IntN(3) {
			if len(c.Before) < mule.MaxBefore {
				c.Before = slices.Insert(c.Before, r.IntN(len(c.Before)+1), anyOf(r, some))
			}
		}
		e := mule.Check(c)
		wantErrno(t, "Check", e, checkOf(c))
		seen[e]++
	}
	for _, e := range []api.Errno{api.OK, api.ErrNone, api.ErrTwice, api.ErrClash} {
		if seen[e] < 100 {
			t.Errorf("errors: %v", seen)
		}
	}
}
