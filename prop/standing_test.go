package prop_test

import (
	"math/rand/v2"
	"slices"
	"testing"

	"novaculite/api"
	"novaculite/prop"
)

func TestStandsTips(t *testing.T) { // P7.2
	forPiles(t, func(_ *rand.Rand, stones []prop.Stone) {
		level, found := tipsOf(stones)
		is, e := prop.Stands(stones)
		wantValue(t, "Stands", is, e, !found, api.OK)
		got, e := prop.Tips(stones)
		wantValue(t, "Tips", got, e, level, errorUnless(found, api.ErrClash))
	})
}

// errorUnless returns an error unless there is a result.
func errorUnless(is bool, e api.Errno) api.Errno {
	if is {
		return api.OK
	}
	return e
}

func TestTipsToTheLeft(t *testing.T) { // P7.2
	level, e := prop.Tips(pile(5, -20, 1, 1, 5, -26, 1, 1))
	wantValue(t, "Tips", level, e, 1, api.OK)
	level, e = prop.Tips(pile(5, -20, 1, 1, 5, -25, 1, 1))
	wantValue(t, "Tips of a stone above the left edge", level, e, 0, api.ErrClash)
	level, e = prop.Tips(pile(5, -33554432, 1, 1))
	wantValue(t, "Tips of a stone far to the left on the rock", level, e, 0, api.ErrClash)
}

func TestWorst(t *testing.T) { // P7.3
	forPiles(t, func(r *rand.Rand, stones []prop.Stone) {
		for level := range stones {
			for _, side := range edges() {
				truth, e := prop.Worst(stones, level, side)
				if wrong := checkSideOf(level, side); wrong != api.OK {
					wantList(t, "Worst", truth, e, nil, wrong)
					continue
				}
				wantList(t, "Worst", truth, e, worstOf(stones, level, side), api.OK)
			}
		}
	})
}

// checkSideOf says what is wrong with a side of a level.
func checkSideOf(level, side int) api.Errno {
	if side != 1 && side != -1 {
		return api.ErrRange
	}
	if level == 0 && side == -1 {
		return api.ErrOpen
	}
	return api.OK
}

// randomWeights returns a truth of a pile, or one with something wrong.
func randomWeights(r *rand.Rand, stones []prop.Stone) []int {
	var weights []int
	for _, s := range stones {
		weights = append(weights, between(r, s.Least, s.Most))
	}
	return spoil(r, weights)
}

func TestMomentProves(t *testing.T) { // P7.3
	forPiles(t, func(r *rand.Rand, stones []prop.Stone) {
		for level := range stones {
			weights := randomWeights(r, stones)
			wrong := checkWeightsOf(stones, weights)
			for _, side := range list(1, -1, 0, 2, smallest, greatest) {
				moment, e := prop.Moment(stones, weights, level, side)
				switch wrongSide := checkSideOf(level, side); {
				case wrongSide != api.OK:
					wantValue(t, "Moment", moment, e, 0, wrongSide)
				case wrong != api.OK:
					wantValue(t, "Moment", moment, e, 0, wrong)
				default:
					wantValue(t, "Moment", moment, e, momentOf(stones, weights, level, side), api.OK)
				}
			}
			if wrong == api.OK && !tipsIn(stones, weights, level) {
				wrong = api.ErrProof
			}
			wantErrno(t, "Proves", prop.Proves(stones, weights, level), wrong)
		}
	})
}

func TestSpan(t *testing.T) { // P7.4
	forPiles(t, func(_ *rand.Rand, stones []prop.Stone) {
		for level := range stones {
			wantLow, wantHigh := spanOf(stones, level)
			low, high, e := prop.Span(stones, level)
			wantSpan(t, "Span", low, high, e, lowest(wantLow), lowest(wantHigh), api.OK)
		}
	})
}

func TestSpanOfZero(t *testing.T) { // P7.4
	low, high, e := prop.Span(pile(3, 0, 1, 9), 0)
	wantSpan(t, "Span of a stone at 0", low, high, e, frac(0, 1), frac(0, 1), api.OK)
	low, high, e = prop.Span(pile(3, -4, 2, 2, 3, 2, 1, 4), 0)
	wantSpan(t, "Span to 0", low, high, e, frac(-2, 1), frac(0, 1), api.OK)
}

func TestSlack(t *testing.T) { // P7.5
	forPiles(t, func(_ *rand.Rand, stones []prop.Stone) {
		for stone := range stones {
			far, e := prop.Slack(stones, stone)
			if !standsOf(stones) {
				wantValue(t, "Slack", far, e, 0, api.ErrLost)
				continue
			}
			if wantErrno(t, "Slack", e, api.OK); far < 0 || !standsOf(movedOf(stones, stone, far)) {
				t.Errorf("Slack of %d: %d is too far", stone, far)
			}
			for _, more := range list(1, 2, 3, 4, 5, 100, 1000000) {
				if standsOf(movedOf(stones, stone, far+more)) {
					t.Errorf("Slack of %d: %d, and %d more are not too far", stone, far, more)
				}
			}
		}
	})
}

func TestGreatestSlacks(t *testing.T) { // P7.5
	far, e := prop.Slack(pile(1, -33554432, 1, 9), 0)
	wantValue(t, "Slack of a stone", far, e, 33554432, api.OK)
	far, e = prop.Slack(pile(4194304, -9000000, 1, 9, 1, -13194304, 1, 9), 1)
	wantValue(t, "Slack of a stone above a left edge", far, e, 8388608, api.OK)
	// the upper stone, moved on, is a counterweight no longer
	far, e = prop.Slack(pile(9, 0, 1, 1, 9, 0, 1, 1), 1)
	wantValue(t, "Slack of a stone above the rock's edge", far, e, 0, api.OK)
}

func TestLay(t *testing.T) { // P7.5
	forPiles(t, func(_ *rand.Rand, stones []prop.Stone) {
		k, found := layOf(stones)
		got, e := prop.Lay(stones)
		wantValue(t, "Lay", got, e, k, errorUnless(found, api.ErrClash))
	})
}

func TestLayTipsOnlyWhileItIsBuilt(t *testing.T) { // P7.5
	is, e := prop.Stands(pileR())
	wantValue(t, "Stands of R", is, e, true, api.OK)
	k, e := prop.Lay(pileR())
	wantValue(t, "Lay of R", k, e, 1, api.OK)
	k, e = prop.Lay(slices.Concat(pile(9, 0, 1, 1, 9, 0, 1, 1), pileR()))
	wantValue(t, "Lay of R on two stones", k, e, 3, api.OK)
}
