package prop_test

import (
	"math/rand/v2"
	"slices"
	"testing"

	"novaculite/api"
	"novaculite/prop"
)

func TestCheck(t *testing.T) { // P7.1
	for _, x := range []struct {
		name string
		pile []prop.Stone
		e    api.Errno
	}{
		{"the least stone", pile(1, -33554432, 1, 1), api.OK},
		{"the greatest stone", pile(4194304, 33554432, 9, 9), api.OK},
		{"five stones", make5(), api.OK},
		{"no stones", []prop.Stone{}, api.ErrEmpty},
		{"six stones", append(make5(), make5()[0]), api.ErrMany},
		{"six wrong stones", make([]prop.Stone, 6), api.ErrMany},
		{"Half 0", pile(0, 0, 1, 1), api.ErrRange},
		{"Half too great", pile(4194305, 0, 1, 1), api.ErrRange},
		{"At too small", pile(1, -33554433, 1, 1), api.ErrRange},
		{"At too great", pile(1, 33554433, 1, 1), api.ErrRange},
		{"Least 0", pile(1, 0, 0, 1), api.ErrRange},
		{"Least too great, and above Most", pile(1, 0, 10, 9), api.ErrRange},
		{"Most 0, below Least", pile(1, 0, 1, 0), api.ErrRange},
		{"Most too great", pile(1, 0, 1, 10), api.ErrRange},
		{"Least above Most", pile(1, 0, 9, 8), api.ErrOrder},
		{"Half 0, Least above Most", pile(0, 0, 2, 1), api.ErrRange},
		{"At too great, Least above Most", pile(1, 33554433, 2, 1), api.ErrRange},
		{"an order before a range", pile(1, 0, 1, 1, 1, 0, 2, 1, 0, 0, 1, 1), api.ErrOrder},
		{"a range before an order", pile(1, 0, 1, 1, 0, 0, 1, 1, 1, 0, 2, 1), api.ErrRange},
		{"the greatest ints", pile(greatest, greatest, greatest, greatest), api.ErrRange},
		{"the smallest ints", pile(smallest, smallest, smallest, smallest), api.ErrRange},
	} {
		wantErrno(t, "Check of "+x.name, prop.Check(x.pile), x.e)
	}
}

// make5 returns a pile of as many stones as there can be.
func make5() []prop.Stone {
	return pile(1, 0, 1, 1, 2, 1, 1, 2, 1, 0, 1, 1, 1, 0, 3, 3, 1, 1, 1, 9)
}

func TestErrorsOfPilesComeFirst(t *testing.T) { // P7.1
	r := newRandom()
	for range 20000 {
		stones := randomPile(r)
		if r.IntN(4) > 0 {
			spoilStone(&stones[r.IntN(len(stones))], anyOf(r, edges()), r.IntN(4))
		}
		level := anyOf(r, edges())
		wrong := checkOf(stones)
		wantErrno(t, "Check", prop.Check(stones), wrong)
		is, e := prop.Stands(stones)
		wantErrno(t, "Stands", e, wrong)
		if is && wrong != api.OK {
			t.Errorf("Stands: %v with an error", is)
		}
		if wrong == api.OK && (level < 0 || level >= len(stones)) {
			wrong = api.ErrNone
		}
		if wrong == api.OK {
			continue
		}
		for call, e := range errorsOfPlace(stones, level) {
			wantErrno(t, call, e, wrong)
		}
		if wrong != api.ErrNone {
			level, e := prop.Tips(stones)
			wantValue(t, "Tips", level, e, 0, wrong)
			k, e := prop.Lay(stones)
			wantValue(t, "Lay", k, e, 0, wrong)
		}
		if t.Failed() {
			t.Fatalf("pile %v, level %d", stones, level)
		}
	}
}

func spoilStone(stone *prop.Stone, number, field int) {
	*[]*int{&stone.Half, &stone.At, &stone.Least, &stone.Most}[field] = number
}

// errorsOfPlace returns the errors of all functions with a level or a stone of a
// pile, told wrong arguments beside it.
func errorsOfPlace(stones []prop.Stone, number int) map[string]api.Errno {
	truth, e1 := prop.Worst(stones, number, 0)
	moment, e2 := prop.Moment(stones, nil, number, 0)
	low, high, e3 := prop.Span(stones, number)
	far, e4 := prop.Slack(stones, number)
	known, e5 := prop.Know(stones, number, 2, 1)
	if len(truth) > 0 || moment != 0 || low != frac(0, 0) || high != frac(0, 0) || far != 0 || len(known) > 0 {
		e1 = -1
	}
	return map[string]api.Errno{"Worst": e1, "Moment": e2, "Span": e3, "Slack": e4, "Know": e5,
		"Proves": prop.Proves(stones, nil, number)}
}

func TestKnow(t *testing.T) { // P7.6
	forPiles(t, func(r *rand.Rand, stones []prop.Stone) {
		for stone, s := range stones {
			least, most := anyOf(r, edges()), anyOf(r, edges())
			if r.IntN(2) == 0 {
				least, most = between(r, s.Least-1, s.Most+1), between(r, s.Least-1, s.Most+1)
			}
			known, e := prop.Know(stones, stone, least, most)
			switch {
			case least > most:
				wantList(t, "Know", known, e, nil, api.ErrOrder)
			case least < s.Least || most > s.Most:
				wantList(t, "Know", known, e, nil, api.ErrRange)
			default:
				want := slices.Clone(stones)
				want[stone] = prop.Stone{Half: s.Half, At: s.At, Least: least, Most: most}
				wantList(t, "Know", known, e, want, api.OK)
			}
		}
	})
}

func TestLoads(t *testing.T) { // P7.7
	for _, x := range []struct {
		name            string
		halves, weights []int
		e               api.Errno
	}{
		{"the least load", list(1), list(1), api.OK},
		{"the greatest loads", list(4194304, 4194304, 4194304, 4194304, 4194304), list(9, 9, 9, 9, 9), api.OK},
		{"nothing", nil, nil, api.ErrEmpty},
		{"only a weight", list(), list(1), api.ErrEmpty},
		{"six half lengths", list(1, 1, 1, 1, 1, 1), list(1, 1, 1, 1, 1), api.ErrMany},
		{"six wrong ones", make([]int, 6), make([]int, 6), api.ErrMany},
		{"no weights", list(1), nil, api.ErrShape},
		{"a weight too few", list(1, 0), list(1), api.ErrShape},
		{"a weight too many", list(1), list(1, 0), api.ErrShape},
		{"half length 0", list(1, 0), list(1, 1), api.ErrRange},
		{"half length too great", list(4194305, 1), list(1, 1), api.ErrRange},
		{"weight 0", list(1, 1), list(1, 0), api.ErrRange},
		{"weight too great", list(1, 1), list(10, 1), api.ErrRange},
		{"the smallest int", list(smallest), list(1), api.ErrRange},
		{"the greatest int", list(1), list(greatest), api.ErrRange},
	} {
		wantErrno(t, "Loads of "+x.name, prop.Loads(x.halves, x.weights), x.e)
	}
}

func TestErrorsOfLoadsComeFirst(t *testing.T) { // P7.7
	r := newRandom()
	for range 20000 {
		halves, weights := randomLoads(r)
		halves, weights = spoil(r, halves), spoil(r, weights)
		wrong := checkLoadsOf(halves, weights)
		wantErrno(t, "Loads", prop.Loads(halves, weights), wrong)
		if wrong == api.OK {
			continue
		}
		reach, e := prop.Farthest(halves, weights, anyOf(r, edges()))
		wantValue(t, "Farthest", reach, e, frac(0, 0), wrong)
		centres, e := prop.Centres(halves, weights)
		wantList(t, "Centres", centres, e, nil, wrong)
		order, reach, e := prop.Best(halves, weights)
		wantBest(t, "Best", order, reach, e, nil, frac(0, 0), wrong)
		if t.Failed() {
			t.Fatalf("loads %v with %v", halves, weights)
		}
	}
}

// spoil changes a number of some lists of numbers, or how many they have.
func spoil(r *rand.Rand, l []int) []int {
	if len(l) == 0 {
		return l
	}
	switch r.IntN(6) {
	case 0:
		l[r.IntN(len(l))] = anyOf(r, edges())
	case 1:
		return l[1:]
	case 2:
		return append(l, anyOf(r, edges()))
	}
	return l
}

func TestHarmonic(t *testing.T) { // P7.10
	sum := whole(0)
	for n := 1; n <= 12; n++ {
		sum.Add(sum, ratio(frac(1, n)))
		got, e := prop.Harmonic(n)
		wantValue(t, "Harmonic", got, e, lowest(sum), api.OK)
	}
	for _, n := range list(smallest, -1, 0, 13, greatest) {
		got, e := prop.Harmonic(n)
		wantValue(t, "Harmonic", got, e, frac(0, 0), api.ErrRange)
	}
}
