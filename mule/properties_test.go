package mule_test

import (
	"math/rand/v2"
	"reflect"
	"slices"
	"testing"

	"novaculite/api"
	"novaculite/mule"
)

// leastOf returns what the package says that a best order costs.
func leastOf(t *testing.T, c mule.Caravan) int {
	t.Helper()
	least, e := mule.Least(c)
	wantErrno(t, "Least", e, api.OK)
	return least
}

func TestRuleIsBest(t *testing.T) { // P11.9
	forCaravans(100, func(_ *rand.Rand, c mule.Caravan) {
		rule, e := mule.Rule(c)
		wantErrno(t, "Rule", e, api.OK)
		wantErrno(t, "Valid", mule.Valid(c, rule), api.OK)
		cost, e := mule.Cost(c, rule, worstOf(c))
		wantNumber(t, "Cost of Rule", cost, e, leastOf(t, c), api.OK)
		for _, order := range ordersOf(c) {
			if worstCostOf(c, order) < cost {
				t.Errorf("%v of %v costs less than %v", order, c, rule)
			}
		}
	})
}

func TestLeastIsTheGreatestBound(t *testing.T) { // P11.9
	forCaravans(60, func(_ *rand.Rand, c mule.Caravan) {
		least, most := leastOf(t, c), 0
		for _, group := range groupsOf(len(c.Loads)) {
			bound, e := mule.Bound(c, group)
			wantErrno(t, "Bound", e, api.OK)
			most = max(most, bound)
			wantErrno(t, "Proves of more", mule.Proves(c, least+1, group), api.ErrProof)
			wantErrno(t, "Proves", mule.Proves(c, least, group), errorUnless(bound == least, api.ErrProof))
		}
		wantNumber(t, "the greatest bound", most, api.OK, least, api.OK)
		why, e := mule.Why(c)
		wantErrno(t, "Why", e, api.OK)
		wantErrno(t, "Proves of Why", mule.Proves(c, least, why), api.OK)
	})
}

func TestWorstTruth(t *testing.T) { // P11.10
	late := 0
	forCaravans(40, func(r *rand.Rand, c mule.Caravan) {
		order := anyOf(r, ordersOf(c))
		worst, _ := mule.Arrivals(c, order, worstOf(c))
		most, _ := mule.Cost(c, order, worstOf(c))
		truths := someTruths(r, c)
		for _, days := range truths {
			arrive, e := mule.Arrivals(c, order, days)
			wantErrno(t, "Arrivals", e, api.OK)
			for load, day := range arrive {
				if day > worst[load] {
					t.Errorf("%d of %v arrives on day %d, in the worst truth on %d", load, c, day, worst[load])
				}
			}
			cost, e := mule.Cost(c, order, days)
			wantErrno(t, "Cost", e, api.OK)
			if cost > most {
				t.Errorf("%v of %v costs %d, in the worst truth %d", order, c, cost, most)
			}
		}
		last := slices.Max(worst)
		for snow := max(last-6, 0); snow <= last; snow++ {
			if wantLate(t, c, order, snow, truths) {
				late++
			}
			for _, load := range lateOf(order, snow, truths) {
				if worst[load] <= snow {
					t.Errorf("%d of %v is late, but not in the worst truth", load, c)
				}
			}
		}
	})
	if late < 500 {
		t.Errorf("%d times a load may be late", late)
	}
}

func TestLatestIsKept(t *testing.T) { // P11.11
	kept, broken := 0, 0
	forCaravans(60, func(r *rand.Rand, c mule.Caravan) {
		order := anyOf(r, ordersOf(c))
		for _, days := range someTruths(r, c) {
			arrive, _ := mule.Arrivals(c, order, days)
			cost, _ := mule.Cost(c, order, days)
			for _, most := range list(0, max(cost-1, 0), cost, cost+1, r.IntN(30)) {
				latest, e := mule.Latest(c, most)
				wantErrno(t, "Latest", e, api.OK)
				inTime := true
				for load, day := range arrive {
					inTime = inTime && day <= latest[load]
				}
				if inTime != (cost <= most) {
					t.Errorf("%v of %v with %v costs %d: Latest of %d is %v", order, c, days, cost, most, latest)
				}
				if inTime {
					kept++
				} else {
					broken++
				}
			}
		}
	})
	if kept < 1000 || broken < 1000 {
		t.Errorf("%d times kept, %d times not", kept, broken)
	}
}

func TestArrivalsAddUp(t *testing.T) { // P11.12
	forCaravans(60, func(r *rand.Rand, c mule.Caravan) {
		order, days := anyOf(r, ordersOf(c)), randomDays(r, c)
		arrive, e := mule.Arrivals(c, order, days)
		wantErrno(t, "Arrivals", e, api.OK)
		sum, before := 0, 0
		for _, load := range order {
			wantNumber(t, "days", arrive[load]-before, api.OK, days[load], api.OK)
			before = arrive[load]
			sum += days[load]
		}
		wantNumber(t, "the last load", before, api.OK, sum, api.OK)
	})
}

// results are what promises compare of two caravans.
type results struct {
	count, least, bests int
	saved               []int
}

func resultsOf(t *testing.T, c mule.Caravan) results {
	t.Helper()
	var all results
	var e api.Errno
	all.count, e = mule.Count(c)
	wantErrno(t, "Count", e, api.OK)
	all.least = leastOf(t, c)
	all.bests, e = mule.Bests(c)
	wantErrno(t, "Bests", e, api.OK)
	for snow := 0; snow <= mule.MaxDay; snow += 3 {
		n, e := mule.Saved(c, snow)
		wantErrno(t, "Saved", e, api.OK)
		all.saved = append(all.saved, n)
	}
	return all
}

func noneIsMore(saved, than []int) bool {
	for i := range saved {
		if saved[i] > than[i] {
			return false
		}
	}
	return true
}

func TestOnePairMore(t *testing.T) { // P11.13
	fewer, dearer, lost := 0, 0, 0
	forCaravans(60, func(r *rand.Rand, c mule.Caravan) {
		more := clone(c)
		more.Before = append(more.Before, anyOf(r, pairsOf(len(c.Loads))))
		if mule.Check(more) != api.OK {
			return
		}
		before, after := resultsOf(t, c), resultsOf(t, more)
		if after.count > before.count || after.least < before.least || !noneIsMore(after.saved, before.saved) {
			t.Errorf("%v: %v, with one pair less %v", more, after, before)
		}
		if after.count < before.count {
			fewer++
		}
		if after.least > before.least {
			dearer++
		}
		if !slices.Equal(after.saved, before.saved) {
			lost++
		}
	})
	if fewer < 10 || dearer < 10 || lost < 10 {
		t.Errorf("%d with fewer orders, %d dearer, %d with fewer saved", fewer, dearer, lost)
	}
}

func TestMoreDays(t *testing.T) { // P11.13
	dearer, lost := 0, 0
	forCaravans(40, func(r *rand.Rand, c mule.Caravan) {
		more := clone(c)
		l := &more.Loads[r.IntN(len(c.Loads))]
		l.Most += r.IntN(mule.MaxDays - l.Most + 1)
		before, after := resultsOf(t, c), resultsOf(t, more)
		if after.least < before.least || !noneIsMore(after.saved, before.saved) {
			t.Errorf("%v: %v, with fewer days %v", more, after, before)
		}
		if after.least > before.least {
			dearer++
		}
		if !slices.Equal(after.saved, before.saved) {
			lost++
		}
	})
	if dearer < 10 || lost < 10 {
		t.Errorf("%d dearer, %d with fewer saved", dearer, lost)
	}
}

func TestNames(t *testing.T) { // P11.14
	forCaravans(40, func(r *rand.Rand, c mule.Caravan) {
		other, names := renamed(r, c)
		if before, after := resultsOf(t, c), resultsOf(t, other); !reflect.DeepEqual(before, after) {
			t.Errorf("%v: %v, with other names %v", c, before, after)
		}
		for _, cost := range list(0, 1, 5, 20, 100) {
			latest, wantE := mule.Latest(c, cost)
			want := make([]int, len(latest))
			for load, day := range latest {
				want[names[load]] = day
			}
			l, e := mule.Latest(other, cost)
			wantList(t, "Latest", l, e, want, wantE)
		}
	})
}

func TestOrderOfPairs(t *testing.T) { // P11.14
	forCaravans(30, func(r *rand.Rand, c mule.Caravan) {
		a := randomTold(r, c)
		other := a.clone()
		shuffle(r, other.c.Before)
		if !reflect.DeepEqual(answers(a), answers(other)) {
			t.Errorf("other answers: %v, %v", a, other)
		}
	})
}

func TestNoPairs(t *testing.T) { // P11.15
	r := newRandom()
	factorial := 1
	for size := range mule.MaxLoads {
		factorial *= size + 1
		for range 40 {
			c := randomCaravan(r, size+1)
			c.Before = nil
			n, e := mule.Count(c)
			wantNumber(t, "Count", n, e, factorial, api.OK)
			var byDue []int
			for load := range c.Loads {
				c.Loads[load].Rate, c.Loads[load].Base = 1, 0
				byDue = append(byDue, load)
			}
			slices.SortStableFunc(byDue, func(load, other int) int { return c.Loads[load].Due - c.Loads[other].Due })
			cost, e := mule.Cost(c, byDue, worstOf(c))
			wantNumber(t, "Cost", cost, e, leastOf(t, c), api.OK)
		}
	}
}

// spoil makes some arguments wrong.
func spoil(r *rand.Rand, a told) told {
	a = a.clone()
	for _, l := range [][]int{a.order, a.days, a.group} {
		if r.IntN(2) == 0 {
			l[r.IntN(len(l))] = anyOf(r, edges())
		}
	}
	switch r.IntN(5) {
	case 0:
		a.snow, a.cost = anyOf(r, edges()), anyOf(r, edges())
	case 1:
		a.order, a.group = append(a.order, anyOf(r, edges())), append(a.group, anyOf(r, edges()))
	case 2:
		a.days = append(a.days, anyOf(r, edges()))
	case 3:
		a.c.Before = append(a.c.Before, [2]int{anyOf(r, edges()), anyOf(r, edges())})
	case 4:
		a.c.Loads = append(a.c.Loads, mule.Load{Least: anyOf(r, edges()), Most: anyOf(r, edges()), Due: anyOf(r, edges())})
	}
	return a
}

func TestArgumentsStayAndAnswersRepeat(t *testing.T) { // P1, R2, R4
	forCaravans(60, func(r *rand.Rand, c mule.Caravan) {
		a := randomTold(r, c)
		if r.IntN(2) == 0 {
			a = spoil(r, a)
		}
		a = a.roomy()
		before := a.whole()
		first := answers(a)
		if !reflect.DeepEqual(a.whole(), before) {
			t.Fatalf("arguments were changed: %v", before)
		}
		if !reflect.DeepEqual(first, answers(a)) {
			t.Fatalf("other answers: %v", a)
		}
		for _, got := range first {
			if got.e != api.OK && !got.isNothing() {
				t.Errorf("%v besides an error", got)
			}
		}
	})
}

func TestResultsAreOwnMemory(t *testing.T) { // R4
	forCaravans(20, func(r *rand.Rand, c mule.Caravan) {
		a := randomTold(r, c)
		before := a.clone()
		want := answers(before.clone())
		got := answers(a)
		for i := range got {
			if l, ok := got[i].result.([]int); ok {
				l = l[:cap(l)]
				for j := range l {
					l[j] = -9
				}
			}
			if rest := got[i+1:]; !reflect.DeepEqual(rest, want[i+1:]) {
				t.Fatalf("results share memory: %v, were %v", rest, want[i+1:])
			}
		}
		if !reflect.DeepEqual(a, before) {
			t.Fatalf("a result shares memory with %v", before)
		}
		if !reflect.DeepEqual(answers(a), want) {
			t.Fatalf("other answers: %v", a)
		}
	})
}
