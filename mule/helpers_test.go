package mule_test

import (
	"math/rand/v2"
	"slices"
	"testing"

	"novaculite/api"
	"novaculite/mule"
)

const (
	greatest = int(^uint(0) >> 1)
	smallest = -greatest - 1
)

func list(numbers ...int) []int { return numbers }

// loads makes loads of five numbers each: Least, Most, Due, Rate and Base.
func loads(numbers ...int) []mule.Load {
	var all []mule.Load
	for n := range slices.Chunk(numbers, 5) {
		all = append(all, mule.Load{Least: n[0], Most: n[1], Due: n[2], Rate: n[3], Base: n[4]})
	}
	return all
}

// caravan makes pairs of two numbers each.
func caravan(all []mule.Load, numbers ...int) mule.Caravan {
	c := mule.Caravan{Loads: all}
	for pair := range slices.Chunk(numbers, 2) {
		c.Before = append(c.Before, [2]int(pair))
	}
	return c
}

// caravanC and caravanD are the chapter's C and D.
func caravanC() mule.Caravan {
	return caravan(loads(3, 4, 5, 2, 0, 2, 2, 3, 1, 0, 1, 3, 9, 3, 1), 0, 2)
}

func caravanD() mule.Caravan { return caravan(loads(1, 1, 0, 1, 0, 1, 1, 0, 1, 0)) }

// alike has loads that all take one day and cost nothing.
func alike(number int, pairs ...int) mule.Caravan {
	return caravan(slices.Repeat(loads(1, 1, 0, 0, 0), number), pairs...)
}

// long is a caravan whose loads take as many days and cost as much as can be.
func long() mule.Caravan {
	return caravan(slices.Repeat(loads(mule.MaxDays, mule.MaxDays, 0, mule.MaxRate, mule.MaxBase), mule.MaxLoads))
}

// full has all the loads and pairs that there can be, so that it has one order only.
func full() mule.Caravan {
	return caravan(slices.Repeat(loads(1, 9, 20, 2, 3), 6),
		5, 4, 5, 3, 5, 2, 5, 1, 5, 0, 4, 3, 4, 2, 4, 1, 4, 0, 3, 2, 3, 1, 3, 0, 2, 1, 2, 0, 1, 0)
}

func wantErrno(t *testing.T, call string, got, want api.Errno) {
	t.Helper()
	if got != want {
		t.Errorf("%s: error %d, want %d", call, got, want)
	}
}

func wantNumber(t *testing.T, call string, got int, e api.Errno, want int, wantE api.Errno) {
	t.Helper()
	if got != want || e != wantE {
		t.Errorf("%s: %d with error %d, want %d with %d", call, got, e, want, wantE)
	}
}

func wantList(t *testing.T, call string, got []int, e api.Errno, want []int, wantE api.Errno) {
	t.Helper()
	if !slices.Equal(got, want) || e != wantE {
		t.Errorf("%s: %v with error %d, want %v with %d", call, got, e, want, wantE)
	}
}

// errorUnless returns an error unless there is a result.
func errorUnless(is bool, e api.Errno) api.Errno {
	if is {
		return api.OK
	}
	return e
}

func newRandom() *rand.Rand { return rand.New(rand.NewPCG(1, 2)) }

func anyOf[T any](r *rand.Rand, all []T) T { return all[r.IntN(len(all))] }

// edges returns the numbers at which an answer may change.
func edges() []int {
	return list(smallest, -1, 0, 1, 2, 3, 5, 6, 7, 9, 10, 20, 21, mule.MaxDay, mule.MaxDay+1, greatest)
}

// randomCaravan returns a caravan of some number of loads, with few pairs or many.
func randomCaravan(r *rand.Rand, number int) mule.Caravan {
	days, due := anyOf(r, list(1, 3, mule.MaxDays)), anyOf(r, list(3, 12, mule.MaxDay))
	rate, base := anyOf(r, list(1, 3, mule.MaxRate)), anyOf(r, list(0, 2, mule.MaxBase))
	var c mule.Caravan
	for range number {
		most := 1 + r.IntN(days)
		c.Loads = append(c.Loads, mule.Load{
			Least: 1 + r.IntN(most),
			Most:  most,
			Due:   r.IntN(due + 1),
			Rate:  r.IntN(rate + 1),
			Base:  r.IntN(base + 1),
		})
	}
	c.Before = randomPairs(r, number)
	return c
}

// randomPairs returns pairs by which no load goes before itself.
func randomPairs(r *rand.Rand, number int) [][2]int {
	var pairs [][2]int
	names := r.Perm(number)
	few := 1 + r.IntN(5)
	for i := range number {
		for j := range i {
			if r.IntN(few) == few-1 {
				pairs = append(pairs, [2]int{names[j], names[i]})
			}
		}
	}
	if r.IntN(4) == 0 {
		return nil
	}
	shuffle(r, pairs)
	return pairs
}

func shuffle[T any](r *rand.Rand, all []T) {
	r.Shuffle(len(all), func(i, j int) { all[i], all[j] = all[j], all[i] })
}

// forCaravans tests random caravans of 1 to MaxLoads loads, so many of each number.
func forCaravans(number int, test func(r *rand.Rand, c mule.Caravan)) {
	r := newRandom()
	for size := range mule.MaxLoads {
		for range number {
			test(r, randomCaravan(r, size+1))
		}
	}
}

func randomDays(r *rand.Rand, c mule.Caravan) []int {
	var days []int
	for _, l := range c.Loads {
		days = append(days, l.Least+r.IntN(l.Most-l.Least+1))
	}
	return days
}

func clone(c mule.Caravan) mule.Caravan {
	return mule.Caravan{Loads: slices.Clone(c.Loads), Before: slices.Clone(c.Before)}
}

// told is the arguments of all functions.
type told struct {
	c                  mule.Caravan
	order, days, group []int
	snow, cost         int
}

func (a told) clone() told {
	a.c = clone(a.c)
	a.order, a.days, a.group = slices.Clone(a.order), slices.Clone(a.days), slices.Clone(a.group)
	return a
}

// roomy returns arguments whose lists have an element more behind their ends.
func (a told) roomy() told {
	a.c.Loads = append(slices.Clone(a.c.Loads), mule.Load{Least: 9})[:len(a.c.Loads)]
	a.c.Before = append(slices.Clone(a.c.Before), [2]int{9, 9})[:len(a.c.Before)]
	for _, l := range []*[]int{&a.order, &a.days, &a.group} {
		*l = append(slices.Clone(*l), 9)[:len(*l)]
	}
	return a
}

// whole returns copies of arguments, with what is behind the ends of lists.
func (a told) whole() told {
	a.c.Loads, a.c.Before = a.c.Loads[:cap(a.c.Loads)], a.c.Before[:cap(a.c.Before)]
	for _, l := range []*[]int{&a.order, &a.days, &a.group} {
		*l = (*l)[:cap(*l)]
	}
	return a.clone()
}

// randomTold returns arguments without an error.
func randomTold(r *rand.Rand, c mule.Caravan) told {
	group := anyOf(r, groupsOf(len(c.Loads)))
	return told{c, anyOf(r, ordersOf(c)), randomDays(r, c), group, r.IntN(mule.MaxDay + 1), r.IntN(40)}
}

// answer is one of the results of a function; Check, Valid and Proves have none.
type answer struct {
	of     string
	result any
	e      api.Errno
}

func (a answer) isNothing() bool {
	switch result := a.result.(type) {
	case nil:
		return true
	case int:
		return result == 0
	case []int:
		return len(result) == 0
	}
	return false
}

// answers returns what all functions return. The first five have an order, of which
// the first three have days; the next two have a group.
func answers(a told) []answer {
	var all []answer
	add := func(of string) func(any, api.Errno) {
		return func(result any, e api.Errno) { all = append(all, answer{of, result, e}) }
	}
	add("Arrivals")(mule.Arrivals(a.c, a.order, a.days))
	add("Costs")(mule.Costs(a.c, a.order, a.days))
	add("Cost")(mule.Cost(a.c, a.order, a.days))
	add("Late")(mule.Late(a.c, a.order, a.snow))
	add("Valid")(nil, mule.Valid(a.c, a.order))
	add("Bound")(mule.Bound(a.c, a.group))
	add("Proves")(nil, mule.Proves(a.c, a.cost, a.group))
	add("Saved")(mule.Saved(a.c, a.snow))
	add("Latest")(mule.Latest(a.c, a.cost))
	add("Check")(nil, mule.Check(a.c))
	add("First")(mule.First(a.c))
	add("Count")(mule.Count(a.c))
	add("Least")(mule.Least(a.c))
	add("Rule")(mule.Rule(a.c))
	add("Best")(mule.Best(a.c))
	add("Bests")(mule.Bests(a.c))
	add("Why")(mule.Why(a.c))
	return all
}
