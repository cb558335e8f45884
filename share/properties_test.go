package share_test

import (
	"math/rand/v2"
	"reflect"
	"slices"
	"testing"

	"novaculite/api"
	"novaculite/drain"
	"novaculite/share"
)

func wantSteady(t *testing.T, call string, h drain.Hill, split []int) {
	t.Helper()
	is, e := share.Steady(h, split)
	wantValue(t, call, is, e, true, api.OK)
}

func TestPlannedIsSteady(t *testing.T) { // P10.9
	forHills(300, func(_ *rand.Rand, h drain.Hill, _ []int) {
		planned, e := share.Planned(h)
		wantErrno(t, "Planned", e, api.OK)
		wantSteady(t, "Planned", h, planned)
		for _, split := range planSplitsOf(h) {
			wantSteady(t, "a cheapest plan", h, split)
		}
	})
}

// payersOf returns all ways in which dues can be paid, or some if there are many.
func payersOf(r *rand.Rand, h drain.Hill) [][]int {
	dues, _ := drain.Dues(h)
	all := [][]int{nil}
	for _, d := range dues {
		var longer [][]int
		for _, payers := range all {
			for _, g := range d.Group {
				longer = append(longer, append(slices.Clone(payers), g))
			}
		}
		r.Shuffle(len(longer), func(i, j int) { longer[i], longer[j] = longer[j], longer[i] })
		all = longer[:min(len(longer), 60)]
	}
	return all
}

func TestPaidDuesAreSteady(t *testing.T) { // P10.10
	forHills(150, func(r *rand.Rand, h drain.Hill, _ []int) {
		for _, payers := range payersOf(r, h) {
			split, e := share.Paid(h, payers)
			wantErrno(t, "Paid", e, api.OK)
			wantSteady(t, "Paid", h, split)
		}
		for g := range h.Galleries {
			low, high, e := share.Bounds(h, g)
			wantErrno(t, "Bounds", e, api.OK)
			for _, split := range planSplitsOf(h) {
				if split[g] < low || split[g] > high {
					t.Errorf("gallery %d of %v pays %d, not from %d to %d", g, h, split[g], low, high)
				}
			}
		}
	})
}

// someSplits returns all splits of a hill, or some if there are many.
func someSplits(r *rand.Rand, h drain.Hill, costs []int) [][]int {
	if least := costs[len(costs)-1]; h.Galleries < 3 || least < 4 {
		return splitsOf(h.Galleries, least)
	}
	var splits [][]int
	for range 20 {
		splits = append(splits, randomSplit(r, h))
	}
	return splits
}

func TestJoinsIsPaid(t *testing.T) { // P10.11
	steady, just := 0, 0
	forHills(300, func(r *rand.Rand, h drain.Hill, costs []int) {
		joins := make([]int, h.Galleries)
		for g := range joins {
			n, e := share.Joins(h, g)
			if e != api.OK {
				n = -1 // no bound
			}
			joins[g] = n
		}
		for _, split := range someSplits(r, h, costs) {
			if !wantSplit(t, h, costs, split) {
				continue
			}
			steady++
			for g, least := range joins {
				if split[g] < least {
					t.Errorf("gallery %d of %v pays %d, joins for %d", g, h, split[g], least)
				}
				if split[g] == least {
					just++
				}
			}
		}
	})
	if steady < 1000 || just < 1000 {
		t.Errorf("%d steady splits, %d galleries pay just what they must", steady, just)
	}
}

func TestOrdersAddUp(t *testing.T) { // P10.12
	averages := 0
	forHills(300, func(r *rand.Rand, h drain.Hill, costs []int) {
		least := costs[len(costs)-1]
		if adds, e := share.Marginal(h, r.Perm(h.Galleries)); e == api.OK {
			wantValue(t, "sum of Marginal", sumOf(adds), e, least, api.OK)
		}
		if sums, orders, e := share.Average(h); e == api.OK {
			wantValue(t, "sum of Average", sumOf(sums), e, least*orders, api.OK)
			averages++
		}
	})
	if averages == 0 {
		t.Error("no hill had averages")
	}
}

func TestSmoothHills(t *testing.T) { // P10.13
	splits, others := 0, 0
	forHills(600, func(r *rand.Rand, h drain.Hill, costs []int) {
		if is, _ := share.Smooth(h); !is || slices.Contains(costs, -1) {
			return
		}
		for range 6 {
			adds, e := share.Marginal(h, r.Perm(h.Galleries))
			wantErrno(t, "Marginal", e, api.OK)
			for _, group := range groupsOf(h.Galleries) {
				if over := overOf(costs, adds, group); over > 0 {
					t.Errorf("%v of %v is over by %d by %v", group, h, over, adds)
				}
			}
			if slices.Min(adds) < 0 {
				wantErrno(t, "Valid", share.Valid(h, adds), api.ErrRange)
				others++
				continue
			}
			wantSteady(t, "Marginal", h, adds)
			splits++
		}
	})
	if splits == 0 || others == 0 {
		t.Errorf("%d splits by orders, and %d with numbers below 0", splits, others)
	}
}

func TestProvesIsOver(t *testing.T) { // P10.14
	seen := map[api.Errno]int{}
	forHills(200, func(r *rand.Rand, h drain.Hill, _ []int) {
		split := randomSplit(r, h)
		accepted := 0
		for _, group := range groupsOf(h.Galleries) {
			over, e := share.Over(h, split, group)
			want := e
			if e == api.OK {
				want = errorUnless(over > 0, api.ErrProof)
			}
			got := share.Proves(h, split, group)
			wantErrno(t, "Proves", got, want)
			if seen[got]++; got == api.OK {
				accepted++
			}
		}
		is, e := share.Steady(h, split)
		wantValue(t, "Steady", is, e, accepted == 0, api.OK)
		if why, e := share.Why(h, split); e == api.OK {
			wantErrno(t, "Proves of Why", share.Proves(h, split, why), api.OK)
		}
	})
	if len(seen) != 3 {
		t.Errorf("answers of Proves: %v", seen)
	}
}

func TestNames(t *testing.T) { // P10.15
	forHills(200, func(r *rand.Rand, h drain.Hill, _ []int) {
		other, names := renamed(r, h)
		costs, e := share.Costs(h)
		wantErrno(t, "Costs", e, api.OK)
		otherCosts, e := share.Costs(other)
		wantErrno(t, "Costs", e, api.OK)
		for i, cost := range costs {
			wantValue(t, "cost", otherCosts[renamedGroup(i+1, names)-1], e, cost, api.OK)
		}
		sums, orders, wantE := share.Average(h)
		otherSums := make([]int, len(sums))
		for g, sum := range sums {
			otherSums[names[g]] = sum
		}
		wantAverage(t, other, otherSums, orders, wantE)
		plans, wantE := share.Plans(h)
		n, e := share.Plans(other)
		wantValue(t, "Plans", n, e, plans, wantE)
		smooth, wantE := share.Smooth(h)
		is, e := share.Smooth(other)
		wantValue(t, "Smooth", is, e, smooth, wantE)
	})
}

func TestMoreChannels(t *testing.T) { // P10.16
	r := newRandom()
	cheaper, more := 0, 0
	for range 500 {
		h := randomHill(r)
		if len(h.Channels) == 0 {
			continue
		}
		fewer := clone(h)
		fewer.Channels = slices.Delete(fewer.Channels, 0, 1) // they are in no order
		costs, _ := share.Costs(h)
		before, _ := share.Costs(fewer)
		for i, cost := range costs {
			switch {
			case before[i] < 0 && cost >= 0:
				more++
			case before[i] < 0:
			case cost < 0 || cost > before[i]:
				t.Errorf("%v costs %d, with one channel less %d", listOf(i+1), cost, before[i])
			case cost < before[i]:
				cheaper++
			}
		}
	}
	if cheaper == 0 || more == 0 {
		t.Errorf("%d groups cost less, %d more can drain alone", cheaper, more)
	}
}

func TestAloneInAlone(t *testing.T) { // P10.17
	r := newRandom()
	for range 100 {
		h := randomHill(r)
		sub, e := share.Sub(h, listOf(1<<h.Galleries-1))
		wantHill(t, "Sub of all", sub, e, h, api.OK)
		greater := anyOf(r, groupsOf(h.Galleries))
		sub, e = share.Sub(h, greater)
		wantErrno(t, "Sub", e, api.OK)
		for _, numbers := range groupsOf(len(greater)) {
			var group []int
			for _, i := range numbers {
				group = append(group, greater[i])
			}
			want, _ := share.Sub(h, group)
			got, e := share.Sub(sub, numbers)
			wantHill(t, "Sub of Sub", got, e, want, api.OK)
		}
	}
}

// spoil makes some arguments wrong.
func spoil(r *rand.Rand, a told) told {
	a = a.clone()
	for _, l := range [][]int{a.group, a.split, a.payers, a.order} {
		if len(l) > 0 && r.IntN(2) == 0 {
			l[r.IntN(len(l))] = anyOf(r, edges())
		}
	}
	switch r.IntN(4) {
	case 0:
		a.gallery = anyOf(r, edges())
	case 1:
		a.group, a.split = append(a.group, anyOf(r, edges())), append(a.split, anyOf(r, edges()))
	case 2:
		a.payers, a.order = append(a.payers, anyOf(r, edges())), append(a.order, anyOf(r, edges()))
	case 3:
		a.h.Channels = append(a.h.Channels, [3]int{anyOf(r, edges()), anyOf(r, edges()), anyOf(r, edges())})
	}
	return a
}

func TestArgumentsStayAndAnswersRepeat(t *testing.T) { // P1, R2, R4
	forHills(300, func(r *rand.Rand, h drain.Hill, _ []int) {
		a := randomTold(r, h)
		if r.IntN(2) == 0 {
			a = spoil(r, a)
		}
		a = a.roomy()
		before := a.whole()
		first := answers(a)
		if !reflect.DeepEqual(a.whole(), before) {
			t.Fatalf("arguments were changed: %v", before)
		}
		if !reflect.DeepEqual(first, answers(a)) {
			t.Fatalf("other answers: %v", a)
		}
		for _, got := range first {
			if got.e != api.OK && !got.isNothing() {
				t.Errorf("%v besides an error", got)
			}
		}
	})
}

func TestResultsAreOwnMemory(t *testing.T) { // R4
	overwrite := func(result any) {
		switch result := result.(type) {
		case []int:
			for i := range result[:cap(result)] {
				result[:cap(result)][i] = -9
			}
		case drain.Hill:
			for i := range result.Channels[:cap(result.Channels)] {
				result.Channels[:cap(result.Channels)][i] = [3]int{-9, -9, -9}
			}
		}
	}
	forHills(100, func(r *rand.Rand, h drain.Hill, _ []int) {
		a := randomTold(r, h)
		a.group = listOf(1<<h.Galleries - 1) // what it has alone is the hill itself
		before := a.clone()
		want := answers(before.clone())
		got := answers(a)
		for i := range got {
			overwrite(got[i].result)
			if rest := got[i+1:]; !reflect.DeepEqual(rest, want[i+1:]) {
				t.Fatalf("results share memory: %v, were %v", rest, want[i+1:])
			}
		}
		if !reflect.DeepEqual(a, before) {
			t.Fatalf("a result shares memory with %v", before)
		}
		if !reflect.DeepEqual(answers(a), want) {
			t.Fatalf("other answers: %v", a)
		}
	})
}
