package prop_test

import (
	"math/big"
	"math/rand/v2"
	"reflect"
	"slices"
	"testing"

	"novaculite/api"
	"novaculite/prop"
)

func TestWorstTruthIsWorst(t *testing.T) { // P7.11
	forPiles(t, func(_ *rand.Rand, stones []prop.Stone) {
		for level := range stones {
			for _, side := range sidesOf(level) {
				truth, e := prop.Worst(stones, level, side)
				wantErrno(t, "Worst", e, api.OK)
				most, e := prop.Moment(stones, truth, level, side)
				wantErrno(t, "Moment", e, api.OK)
				for _, other := range truthsOf(stones) {
					if momentOf(stones, other, level, side) > most {
						t.Errorf("level %d: %v has a greater moment than the worst truth %v", level, other, truth)
					}
				}
			}
		}
	})
}

func sidesOf(level int) []int {
	if level == 0 {
		return list(1)
	}
	return list(1, -1)
}

func TestWorstTruthProves(t *testing.T) { // P7.11
	forPiles(t, func(_ *rand.Rand, stones []prop.Stone) {
		tips, e := prop.Tips(stones)
		for level := range stones {
			proved := false
			for _, side := range sidesOf(level) {
				truth, _ := prop.Worst(stones, level, side)
				proved = proved || prop.Proves(stones, truth, level) == api.OK
			}
			if e == api.OK && level == tips && !proved || (e == api.ErrClash || level < tips) && proved {
				t.Errorf("level %d: proved %v, Tips %d with error %d", level, proved, tips, e)
			}
		}
	})
}

func TestStandsByCentres(t *testing.T) { // P7.12
	forPiles(t, func(_ *rand.Rand, stones []prop.Stone) {
		within := true
		for level := range stones {
			low, high, _ := prop.Span(stones, level)
			if ratio(high).Cmp(whole(rightEdgeOf(stones, level))) > 0 {
				within = false
			}
			if level > 0 && ratio(low).Cmp(whole(leftEdgeOf(stones, level))) < 0 {
				within = false
			}
		}
		is, e := prop.Stands(stones)
		wantValue(t, "Stands", is, e, within, api.OK)
	})
}

func TestReachIsASum(t *testing.T) { // P7.13
	forLoads(t, func(_ *rand.Rand, halves, weights []int) {
		for f := range halves {
			want := whole(halves[f])
			above, with := sumOf(weights[f+1:]), sumOf(weights[f:])
			want.Add(want, big.NewRat(int64(halves[f]*above), int64(with)))
			for i := range f {
				want.Add(want, big.NewRat(int64(halves[i]*weights[i]), int64(sumOf(weights[i:]))))
			}
			reach, e := prop.Farthest(halves, weights, f)
			wantValue(t, "Farthest", reach, e, lowest(want), api.OK)
		}
	})
}

func sumOf(l []int) int {
	sum := 0
	for _, number := range l {
		sum += number
	}
	return sum
}

func TestReachOfLikeStones(t *testing.T) { // P7.13
	for _, half := range list(1, 2, 3, 7, 60, 4194303, 4194304) {
		for weight := 1; weight <= 9; weight++ {
			for n := 1; n <= 5; n++ {
				halves, weights := slices.Repeat(list(half), n), slices.Repeat(list(weight), n)
				harmonic, _ := prop.Harmonic(n)
				want := new(big.Rat).Mul(ratio(harmonic), whole(half))
				reach, e := prop.Farthest(halves, weights, n-1)
				wantValue(t, "Farthest", reach, e, lowest(want), api.OK)
				for stone := range n {
					reach, _ := prop.Farthest(halves, weights, stone)
					if ratio(reach).Cmp(want) > 0 {
						t.Errorf("the stone %d of %d reaches farther than the last one", stone, n)
					}
				}
			}
		}
	}
}

func TestHeaviestLowest(t *testing.T) { // P7.14
	r := newRandom()
	for range 200 {
		_, weights := randomLoads(r)
		n := len(weights)
		halves := slices.Repeat(list(between(r, 1, anyOf(r, list(3, 60, prop.MaxHalf)))), n)
		_, best, e := prop.Best(halves, weights)
		wantErrno(t, "Best", e, api.OK)
		heaviest := slices.Clone(weights)
		slices.Sort(heaviest)
		slices.Reverse(heaviest)
		reach, e := prop.Farthest(halves, heaviest, n-1)
		wantValue(t, "Farthest", reach, e, best, api.OK)
		for _, order := range ordersOf(n) {
			for stone := range n {
				reach, _ := prop.Farthest(halves, inOrder(weights, order), stone)
				if ratio(reach).Cmp(ratio(best)) > 0 {
					t.Errorf("order %v: the stone at %d reaches farther", order, stone)
				}
			}
		}
		if t.Failed() {
			t.Fatalf("half %d with %v", halves[0], weights)
		}
	}
}

func TestKnowingMore(t *testing.T) { // P7.15
	forPiles(t, func(r *rand.Rand, stones []prop.Stone) {
		stone := r.IntN(len(stones))
		s := stones[stone]
		least := between(r, s.Least, s.Most)
		known, e := prop.Know(stones, stone, least, between(r, least, s.Most))
		wantErrno(t, "Know", e, api.OK)
		before, _ := prop.Stands(stones)
		after, _ := prop.Stands(known)
		if before && !after {
			t.Errorf("%v does not stand", known)
		}
		for level := range stones {
			low, high, _ := prop.Span(stones, level)
			knownLow, knownHigh, _ := prop.Span(known, level)
			if ratio(knownLow).Cmp(ratio(low)) < 0 || ratio(knownHigh).Cmp(ratio(high)) > 0 {
				t.Errorf("level %d of %v: Span is from %v to %v", level, known, knownLow, knownHigh)
			}
		}
	})
}

func TestOneMoreThanSlack(t *testing.T) { // P7.15
	forPiles(t, func(_ *rand.Rand, stones []prop.Stone) {
		for stone := range stones {
			far, e := prop.Slack(stones, stone)
			after := movedOf(stones, stone, far+1)
			if e == api.OK && prop.Check(after) == api.OK {
				is, e := prop.Stands(after)
				wantValue(t, "Stands", is, e, false, api.OK)
			}
		}
	})
}

// steady is what stays in other units: Stands, Tips, Lay and Worst of a pile.
type steady struct {
	stands, tips, lay, worst []any
}

func steadyOf(stones []prop.Stone) steady {
	s := steady{}
	is, e := prop.Stands(stones)
	s.stands = append(s.stands, is, e)
	level, e := prop.Tips(stones)
	s.tips = append(s.tips, level, e)
	k, e := prop.Lay(stones)
	s.lay = append(s.lay, k, e)
	for level := range stones {
		for _, side := range sidesOf(level) {
			truth, e := prop.Worst(stones, level, side)
			s.worst = append(s.worst, truth, e)
		}
	}
	return s
}

func TestUnitsOfLength(t *testing.T) { // P7.16
	forPiles(t, func(r *rand.Rand, stones []prop.Stone) {
		factor := between(r, 1, 7)
		scaled := slices.Clone(stones)
		for i := range scaled {
			scaled[i].At *= factor
			scaled[i].Half *= factor
		}
		if prop.Check(scaled) != api.OK {
			return
		}
		if !reflect.DeepEqual(steadyOf(stones), steadyOf(scaled)) {
			t.Errorf("factor %d: other answers", factor)
		}
		for level := range stones {
			low, high, _ := prop.Span(stones, level)
			wantLow := new(big.Rat).Mul(ratio(low), whole(factor))
			wantHigh := new(big.Rat).Mul(ratio(high), whole(factor))
			low, high, e := prop.Span(scaled, level)
			wantSpan(t, "Span", low, high, e, lowest(wantLow), lowest(wantHigh), api.OK)
		}
	})
}

func TestUnitsOfWeight(t *testing.T) { // P7.16
	forPiles(t, func(r *rand.Rand, stones []prop.Stone) {
		factor := between(r, 1, 4)
		scaled := slices.Clone(stones)
		for i := range scaled {
			scaled[i].Least *= factor
			scaled[i].Most *= factor
		}
		if prop.Check(scaled) != api.OK {
			return
		}
		before, after := steadyOf(stones), steadyOf(scaled)
		before.worst, after.worst = nil, nil
		if !reflect.DeepEqual(before, after) {
			t.Errorf("factor %d: other answers", factor)
		}
		for level := range stones {
			wantLow, wantHigh, _ := prop.Span(stones, level)
			low, high, e := prop.Span(scaled, level)
			wantSpan(t, "Span", low, high, e, wantLow, wantHigh, api.OK)
		}
	})
}

func TestMomentsOfBothSides(t *testing.T) { // P7.17
	forPiles(t, func(r *rand.Rand, stones []prop.Stone) {
		truth := anyOf(r, truthsOf(stones))
		for level := 1; level < len(stones); level++ {
			toRight, _ := prop.Moment(stones, truth, level, 1)
			toLeft, e := prop.Moment(stones, truth, level, -1)
			wantValue(t, "Moment", toRight+toLeft, e, sumOf(truth[level:])*-2*stones[level-1].Half, api.OK)
		}
	})
}

// told is the arguments of all functions.
type told struct {
	stones                      []prop.Stone
	halves, weights             []int
	stone, side, least, most, n int
}

func (a told) clone() told {
	a.stones, a.halves, a.weights = slices.Clone(a.stones), slices.Clone(a.halves), slices.Clone(a.weights)
	return a
}

// answers returns what all functions return for some arguments.
func answers(a told) []any {
	var all []any
	add := func(results ...any) { all = append(all, results...) }
	two := func(result any, e api.Errno) { add(result, e) }
	three := func(first, second any, e api.Errno) { add(first, second, e) }
	span := func(low, high prop.Frac, e api.Errno) { three(low, high, e) }
	best := func(order []int, reach prop.Frac, e api.Errno) { three(order, reach, e) }
	add(prop.Check(a.stones))
	two(prop.Stands(a.stones))
	two(prop.Tips(a.stones))
	two(prop.Worst(a.stones, a.stone, a.side))
	two(prop.Moment(a.stones, a.weights, a.stone, a.side))
	add(prop.Proves(a.stones, a.weights, a.stone))
	span(prop.Span(a.stones, a.stone))
	two(prop.Slack(a.stones, a.stone))
	two(prop.Lay(a.stones))
	two(prop.Know(a.stones, a.stone, a.least, a.most))
	add(prop.Loads(a.halves, a.weights))
	two(prop.Farthest(a.halves, a.weights, a.stone))
	two(prop.Centres(a.halves, a.weights))
	best(prop.Best(a.halves, a.weights))
	two(prop.Harmonic(a.n))
	return all
}

func TestArgumentsStayAndAnswersRepeat(t *testing.T) { // P1, R4
	r := newRandom()
	for range 5000 {
		stones := randomUpright(r)
		halves, weights := randomLoads(r)
		a := told{stones, spoil(r, halves), spoil(r, weights), anyOf(r, edges()), anyOf(r, list(-1, 1, anyOf(r, edges()))),
			anyOf(r, edges()), anyOf(r, edges()), anyOf(r, edges())}
		if r.IntN(2) == 0 {
			a.weights = randomWeights(r, stones)
		}
		if r.IntN(2) == 0 {
			a.stone = r.IntN(len(stones))
			a.least, a.most = stones[a.stone].Least, stones[a.stone].Most
		}
		if r.IntN(4) == 0 {
			spoilStone(&stones[r.IntN(len(stones))], anyOf(r, edges()), r.IntN(4))
		}
		before := a.clone()
		first := answers(a)
		if !reflect.DeepEqual(a, before) {
			t.Fatalf("arguments were changed: %v", before)
		}
		if !reflect.DeepEqual(first, answers(a)) {
			t.Fatalf("other answers: %v", a)
		}
	}
}

func TestResultsAreOwnMemory(t *testing.T) { // R4
	stones := pileQ()
	known, _ := prop.Know(stones, 1, 1, 4)
	known[0].Half = 99
	wantList(t, "the pile", stones, api.OK, pileQ(), api.OK)
	truth, _ := prop.Worst(stones, 0, 1)
	truth[0] = 99
	again, e := prop.Worst(stones, 0, 1)
	wantList(t, "Worst", again, e, list(3, 4), api.OK)
	order, _, _ := prop.Best(list(4, 4), list(1, 3))
	order[0] = 99
	order, reach, e := prop.Best(list(4, 4), list(1, 3))
	wantBest(t, "Best", order, reach, e, list(1, 0), frac(7, 1), api.OK)
}
