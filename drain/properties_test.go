package drain_test

import (
	"math/rand/v2"
	"slices"
	"testing"

	"novaculite/api"
	"novaculite/drain"
)

func TestDuesProve(t *testing.T) { // P2.8
	r := newRandom()
	for range 300 {
		h := drainedHill(r)
		dues, _ := drain.Dues(h)
		charged, _ := drain.Charged(h, dues)
		cheapest, least := cheapestOf(h)
		if sum := sumOf(dues); sum != least || len(dues) > drain.MaxDues {
			t.Fatalf("dues of %v: %v, want together %d", h, dues, least)
		}
		for i, c := range h.Channels {
			if charged[i] > c[2] || inSome(cheapest, i) && charged[i] != c[2] {
				t.Fatalf("channel %d of %v is charged %d", i, h, charged[i])
			}
		}
		for _, plan := range plansOf(h) {
			want := api.OK
			if costOf(h, plan) > least {
				want = api.ErrProof
			}
			wantErrno(t, "Proves", drain.Proves(h, plan, dues), want)
		}
	}
}

func TestProvesIsNotMistaken(t *testing.T) { // P2.8
	r := newRandom()
	accepted := 0
	for range 300 {
		h := drainedHill(r)
		dues, _ := drain.Dues(h)
		if len(dues) == 0 {
			continue
		}
		one := &dues[r.IntN(len(dues))]
		one.Pay = min(drain.MaxPay, max(1, one.Pay+r.IntN(3)-1))
		plans := plansOf(h)
		plan := plans[r.IntN(len(plans))]
		_, least := cheapestOf(h)
		if drain.Proves(h, plan, dues) == api.OK {
			accepted++
			if costOf(h, plan) != least {
				t.Fatalf("Proves of %v, %v takes %v", h, plan, dues)
			}
		}
	}
	if accepted == 0 {
		t.Error("Proves took no dues at all")
	}
}

func TestMostIsNarrow(t *testing.T) { // P2.9
	r := newRandom()
	for range 300 {
		h := randomHill(r)
		_, channels, _ := drain.Narrow(h)
		n, e := drain.Most(h)
		wantNumber(t, "Most", n, e, channels, api.OK)
		for plans := 1; plans <= drain.MaxPlans; plans++ {
			if _, e := drain.Apart(h, plans); (e == api.OK) != (plans <= channels) {
				t.Fatalf("Apart of %v: %d with error %d, the narrowest group has %d", h, plans, e, channels)
			}
		}
	}
}

func TestTraps(t *testing.T) { // P2.10
	r := newRandom()
	for range 500 {
		h := randomHill(r)
		count, _ := drain.Count(h)
		stuck, _ := drain.Stuck(h)
		trap, e := drain.Trap(h)
		if (count > 0) != (e == api.ErrClash) || (count > 0) != (len(stuck) == 0) {
			t.Fatalf("%v: %d plans, the trap %v with error %d, stuck %v", h, count, trap, e, stuck)
		}
		for _, g := range trap {
			if !slices.Contains(stuck, g) {
				t.Fatalf("%v: the trap %v, stuck %v", h, trap, stuck)
			}
		}
		if len(stuck) > 0 {
			l, e := drain.Leaves(h, stuck)
			wantList(t, "Leaves of the stuck ones", l, e, nil, api.OK)
		}
	}
}

func TestCountIsDeterminant(t *testing.T) { // P2.11
	r := newRandom()
	for range 500 {
		h := randomHill(r)
		n, e := drain.Count(h)
		wantNumber(t, "Count", n, e, determinant(matrixOf(h)), api.OK)
	}
}

func TestOneChannelProperties(t *testing.T) { // P2.12
	r := newRandom()
	for range 100 {
		h := drainedHill(r)
		cheapest, _ := cheapestOf(h)
		needed, _ := drain.Needed(h)
		for i, c := range h.Channels {
			isNeeded := slices.Contains(needed, i)
			if _, e := drain.Trap(lacking(h, i)); (e == api.OK) != isNeeded {
				t.Fatalf("%v needs %v, without %d: error %d", h, needed, i, e)
			}
			lacks := slices.ContainsFunc(cheapest, func(plan []int) bool { return !slices.Contains(plan, i) })
			if n, e := drain.Without(h, i); (e == api.OK && n == 0) != lacks {
				t.Fatalf("Without of %v, %d: %d with error %d", h, i, n, e)
			}
			price, e := drain.Price(h, i)
			if (e == api.OK && c[2] <= price || isNeeded) != inSome(cheapest, i) {
				t.Fatalf("Price of %v, %d: %d with error %d", h, i, price, e)
			}
		}
	}
}

// renamed gives galleries other numbers, and channels another order.
func renamed(r *rand.Rand, h drain.Hill) drain.Hill {
	h = copyOf(h)
	names := append(r.Perm(h.Galleries), h.Galleries)
	for i, c := range h.Channels {
		h.Channels[i] = [3]int{names[c[0]], names[c[1]], c[2]}
	}
	r.Shuffle(len(h.Channels), func(i, j int) { h.Channels[i], h.Channels[j] = h.Channels[j], h.Channels[i] })
	return h
}

func TestNames(t *testing.T) { // P2.13
	r := newRandom()
	for range 200 {
		h := randomHill(r)
		other := renamed(r, h)
		for _, call := range []func(drain.Hill) (int, api.Errno){drain.Least, drain.Count, drain.Equal, drain.Most} {
			want, wantE := call(h)
			n, e := call(other)
			wantNumber(t, "with other names", n, e, want, wantE)
		}
		_, want, _ := drain.Narrow(h)
		_, n, e := drain.Narrow(other)
		wantNumber(t, "Narrow with other names", n, e, want, api.OK)
	}
}

func TestMoreChannels(t *testing.T) { // P2.14
	r := newRandom()
	for range 300 {
		h := drainedHill(r)
		fewer := lacking(h, r.IntN(len(h.Channels)))
		count, _ := drain.Count(h)
		fewerCount, _ := drain.Count(fewer)
		most, _ := drain.Most(h)
		fewerMost, _ := drain.Most(fewer)
		if count < fewerCount || most < fewerMost {
			t.Fatalf("%v: %d plans, %d apart; with one channel less %d, %d", h, count, most, fewerCount, fewerMost)
		}
		least, _ := drain.Least(h)
		if fewerLeast, e := drain.Least(fewer); e == api.OK && least > fewerLeast {
			t.Fatalf("%v: %d; with one channel less %d", h, least, fewerLeast)
		}
	}
}

func TestDearerChannel(t *testing.T) { // P2.14
	r := newRandom()
	for range 300 {
		h := drainedHill(r)
		i := r.IntN(len(h.Channels))
		cost := h.Channels[i][2]
		if cost == drain.MaxCost {
			continue
		}
		least, _ := drain.Least(h)
		dearer, e := drain.Least(costing(h, i, cost+1))
		if e != api.OK || dearer < least || dearer > least+1 {
			t.Fatalf("%v: %d; with channel %d dearer by 1: %d with error %d", h, least, i, dearer, e)
		}
	}
}

func TestArgumentsStay(t *testing.T) { // R4, P1
	r := newRandom()
	for range 50 {
		h := drainedHill(r)
		spare := append(slices.Clone(h.Channels), [3]int{7, 7, 7})
		h.Channels = spare[:len(h.Channels)]
		channels := slices.Clone(spare)
		plan, _ := drain.Cheapest(h)
		kept := slices.Clone(plan)
		dues, _ := drain.Dues(h)
		calls(h)
		drain.Cost(h, plan)
		drain.Way(h, plan, 0)
		drain.Leaves(h, list(0))
		drain.Without(h, 0)
		drain.Price(h, 0)
		drain.Charged(h, dues)
		drain.Proves(h, plan, dues)
		drain.Apart(h, 2)
		if !slices.Equal(spare, channels) || !slices.Equal(plan, kept) {
			t.Errorf("channels are %v, were %v; the plan is %v, was %v", spare, channels, plan, kept)
		}
		wantDues(t, "dues", dues, api.OK, duesOf(h), api.OK)
	}
}

func TestResultsAreNew(t *testing.T) { // R4, P1
	r := newRandom()
	for range 50 {
		h := drainedHill(r)
		for _, call := range []func() []int{
			func() []int { l, _ := drain.Cheapest(h); return l },
			func() []int { l, _ := drain.Needed(h); return l },
			func() []int { l, _, _ := drain.Narrow(h); return l },
			func() []int { l, _ := drain.Leaves(h, list(0)); return l },
			func() []int { l, _ := drain.Stuck(drain.Hill{Galleries: h.Galleries}); return l },
			func() []int { l, _ := drain.Trap(drain.Hill{Galleries: h.Galleries}); return l },
		} {
			one := call()
			kept := slices.Clone(one)
			clear(one)
			if two := call(); !slices.Equal(two, kept) {
				t.Errorf("second call: %v, first %v", two, kept)
			}
		}
		dues, _ := drain.Dues(h)
		for i, d := range dues {
			_ = append(d.Group, -1)
			dues[i].Group[0] = -1
		}
		dues, e := drain.Dues(h)
		wantDues(t, "Dues again", dues, e, duesOf(h), api.OK)
	}
	plans, _ := drain.Apart(hillH(), 2)
	_ = append(plans[0], -1)
	plans[0][0] = -1
	wantLists(t, "the second plan", plans[1:], api.OK, [][]int{{1, 2, 5}}, api.OK)
}
