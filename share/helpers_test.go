package share_test

import (
	"math/rand/v2"
	"slices"
	"testing"

	"novaculite/api"
	"novaculite/drain"
	"novaculite/share"
)

const (
	greatest = int(^uint(0) >> 1)
	smallest = -greatest - 1
)

func list(numbers ...int) []int { return numbers }

// hill makes channels of three numbers each: from, to and cost.
func hill(galleries int, numbers ...int) drain.Hill {
	h := drain.Hill{Galleries: galleries}
	for three := range slices.Chunk(numbers, 3) {
		h.Channels = append(h.Channels, [3]int(three))
	}
	return h
}

// hillH and hillM are the chapter's H and M; hillK, of chapter 2, does not drain.
func hillH() drain.Hill {
	return hill(3, 0, 1, 1, 1, 0, 1, 0, 3, 5, 1, 3, 4, 2, 1, 2, 2, 3, 3)
}

func hillM() drain.Hill { return hill(2, 0, 1, 2, 1, 2, 3) }

func hillK() drain.Hill { return hill(2, 0, 1, 2, 1, 0, 3) }

// fork is a hill whose gallery 0 drains by 1 or by 2, but not alone.
func fork() drain.Hill { return hill(3, 0, 1, 1, 0, 2, 1, 1, 3, 1, 2, 3, 1) }

// poor has galleries that help the gallery 2, and each of them is help enough.
func poor() drain.Hill { return hill(3, 2, 0, 1, 2, 1, 1, 2, 3, 9, 0, 3, 0, 1, 3, 0) }

// large is a hill of all galleries and channels that there can be, each of whose
// groups can drain alone.
func large() drain.Hill {
	return hill(6, 0, 6, 20, 1, 6, 20, 2, 6, 20, 3, 6, 20, 4, 6, 20, 5, 6, 20,
		0, 1, 1, 1, 2, 1, 2, 3, 1, 3, 4, 1, 4, 5, 1, 5, 0, 1, 0, 3, 2, 3, 0, 2)
}

func wantErrno(t *testing.T, call string, got, want api.Errno) {
	t.Helper()
	if got != want {
		t.Errorf("%s: error %d, want %d", call, got, want)
	}
}

func wantValue[T comparable](t *testing.T, call string, got T, e api.Errno, want T, wantE api.Errno) {
	t.Helper()
	if got != want || e != wantE {
		t.Errorf("%s: %v with error %d, want %v with %d", call, got, e, want, wantE)
	}
}

func wantList(t *testing.T, call string, got []int, e api.Errno, want []int, wantE api.Errno) {
	t.Helper()
	if !slices.Equal(got, want) || e != wantE {
		t.Errorf("%s: %v with error %d, want %v with %d", call, got, e, want, wantE)
	}
}

func wantHill(t *testing.T, call string, got drain.Hill, e api.Errno, want drain.Hill, wantE api.Errno) {
	t.Helper()
	if got.Galleries != want.Galleries || !slices.Equal(got.Channels, want.Channels) || e != wantE {
		t.Errorf("%s: %v with error %d, want %v with %d", call, got, e, want, wantE)
	}
}

// errorUnless returns an error unless there is a result.
func errorUnless(is bool, e api.Errno) api.Errno {
	if is {
		return api.OK
	}
	return e
}

func newRandom() *rand.Rand { return rand.New(rand.NewPCG(1, 2)) }

func anyOf[T any](r *rand.Rand, all []T) T { return all[r.IntN(len(all))] }

// edges returns the numbers at which an answer may change.
func edges() []int {
	return list(smallest, -1, 0, 1, 2, 3, 5, 6, 7, share.MaxShare, share.MaxShare+1, greatest)
}

// randomHill returns a hill with channels of costs from 0 to some number. Of some
// hills each group can drain alone, and some have traps.
func randomHill(r *rand.Rand) drain.Hill {
	galleries := 1 + r.IntN(drain.MaxGalleries)
	most := anyOf(r, list(0, 1, 3, drain.MaxCost))
	first := drain.Hill{Galleries: galleries}
	rest := drain.Hill{Galleries: galleries}
	shallow := r.IntN(2) == 0 // each gallery has a channel to the mouth
	for from := range galleries {
		for to := range galleries + 1 {
			c := [3]int{from, to, r.IntN(most + 1)}
			switch {
			case from == to:
			case to == galleries && shallow:
				first.Channels = append(first.Channels, c)
			default:
				rest.Channels = append(rest.Channels, c)
			}
		}
	}
	shuffle(r, rest.Channels)
	number := min(len(rest.Channels), drain.MaxChannels-len(first.Channels))
	if r.IntN(3) == 0 {
		number = r.IntN(number + 1)
	}
	first.Channels = append(first.Channels, rest.Channels[:number]...)
	shuffle(r, first.Channels)
	return first
}

func shuffle(r *rand.Rand, channels [][3]int) {
	r.Shuffle(len(channels), func(i, j int) { channels[i], channels[j] = channels[j], channels[i] })
}

// forHills tests random hills that drain; it is told the costs of their groups.
func forHills(number int, test func(r *rand.Rand, h drain.Hill, costs []int)) {
	r := newRandom()
	for number > 0 {
		h := randomHill(r)
		if costs := costsOf(h); costs[len(costs)-1] >= 0 {
			test(r, h, costs)
			number--
		}
	}
}

// randomSplit returns a split of a hill that drains: the one by a cheapest plan,
// of which other galleries pay a little, or much.
func randomSplit(r *rand.Rand, h drain.Hill) []int {
	split := slices.Clone(anyOf(r, planSplitsOf(h)))
	for range r.IntN(4) {
		from, to := r.IntN(h.Galleries), r.IntN(h.Galleries)
		by := min(split[from], 1)
		if r.IntN(2) == 0 {
			by = r.IntN(split[from] + 1)
		}
		split[from] -= by
		split[to] += by
	}
	return split
}

func clone(h drain.Hill) drain.Hill {
	h.Channels = slices.Clone(h.Channels)
	return h
}

// told is the arguments of all functions.
type told struct {
	h                           drain.Hill
	group, split, payers, order []int
	gallery                     int
}

func (a told) clone() told {
	a.h = clone(a.h)
	a.group, a.split = slices.Clone(a.group), slices.Clone(a.split)
	a.payers, a.order = slices.Clone(a.payers), slices.Clone(a.order)
	return a
}

// roomy returns arguments whose lists have an element more behind their ends.
func (a told) roomy() told {
	a.h.Channels = append(slices.Clone(a.h.Channels), [3]int{9, 9, 9})[:len(a.h.Channels)]
	for _, l := range []*[]int{&a.group, &a.split, &a.payers, &a.order} {
		*l = append(slices.Clone(*l), 9)[:len(*l)]
	}
	return a
}

// whole returns copies of arguments, with what is behind the ends of lists.
func (a told) whole() told {
	a.h.Channels = a.h.Channels[:cap(a.h.Channels)]
	for _, l := range []*[]int{&a.group, &a.split, &a.payers, &a.order} {
		*l = (*l)[:cap(*l)]
	}
	return a.clone()
}

// randomTold returns arguments without an error, but that groups may not be able to
// drain alone.
func randomTold(r *rand.Rand, h drain.Hill) told {
	group := anyOf(r, groupsOf(h.Galleries))
	return told{h, group, randomSplit(r, h), randomPayers(r, h), r.Perm(h.Galleries), r.IntN(h.Galleries)}
}

func randomPayers(r *rand.Rand, h drain.Hill) []int {
	dues, _ := drain.Dues(h)
	var payers []int
	for _, d := range dues {
		payers = append(payers, anyOf(r, d.Group))
	}
	return payers
}

// answer is one of the results of a function; Valid and Proves have none.
type answer struct {
	of     string
	result any
	e      api.Errno
}

func (a answer) isNothing() bool {
	switch result := a.result.(type) {
	case nil:
		return true
	case int:
		return result == 0
	case bool:
		return !result
	case []int:
		return len(result) == 0
	case drain.Hill:
		return result.Galleries == 0 && len(result.Channels) == 0
	}
	return false
}

// answers returns what all functions return. The first three do not need a hill
// that drains, and the next five have a split.
func answers(a told) []answer {
	var all []answer
	add := func(of string, result any, e api.Errno) { all = append(all, answer{of, result, e}) }
	addOne := func(of string) func(any, api.Errno) {
		return func(result any, e api.Errno) { add(of, result, e) }
	}
	addOne("Sub")(share.Sub(a.h, a.group))
	addOne("Alone")(share.Alone(a.h, a.group))
	addOne("Costs")(share.Costs(a.h))
	add("Valid", nil, share.Valid(a.h, a.split))
	addOne("Over")(share.Over(a.h, a.split, a.group))
	addOne("Steady")(share.Steady(a.h, a.split))
	addOne("Why")(share.Why(a.h, a.split))
	add("Proves", nil, share.Proves(a.h, a.split, a.group))
	addOne("Planned")(share.Planned(a.h))
	addOne("Plans")(share.Plans(a.h))
	addOne("Paid")(share.Paid(a.h, a.payers))
	addOne("Joins")(share.Joins(a.h, a.gallery))
	addOne("Marginal")(share.Marginal(a.h, a.order))
	addOne("Smooth")(share.Smooth(a.h))
	low, high, e := share.Bounds(a.h, a.gallery)
	add("Bounds", low, e)
	add("Bounds", high, e)
	sums, orders, e := share.Average(a.h)
	add("Average", sums, e)
	add("Average", orders, e)
	one, two, e := share.Bend(a.h)
	add("Bend", one, e)
	add("Bend", two, e)
	return all
}
