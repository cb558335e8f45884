package prop_test

import (
	"math/big"
	"math/rand/v2"
	"slices"
	"testing"

	"novaculite/api"
	"novaculite/prop"
)

func TestFarthest(t *testing.T) { // P7.8
	forLoads(t, func(_ *rand.Rand, halves, weights []int) {
		for stone := range halves {
			want, _ := farthestOf(halves, weights, stone)
			reach, e := prop.Farthest(halves, weights, stone)
			wantValue(t, "Farthest", reach, e, lowest(want), api.OK)
		}
		for _, stone := range list(smallest, -1, len(halves), greatest) {
			reach, e := prop.Farthest(halves, weights, stone)
			wantValue(t, "Farthest", reach, e, frac(0, 0), api.ErrNone)
		}
	})
}

func TestCentres(t *testing.T) { // P7.8
	forLoads(t, func(_ *rand.Rand, halves, weights []int) {
		last := len(halves) - 1
		_, at := farthestOf(halves, weights, last)
		var want []prop.Frac
		for _, a := range at {
			want = append(want, lowest(a))
		}
		centres, e := prop.Centres(halves, weights)
		wantList(t, "Centres", centres, e, want, api.OK)
		at = nil
		for _, c := range centres {
			at = append(at, ratio(c))
		}
		if !placedStands(halves, weights, at) {
			t.Errorf("Centres %v: do not stand", centres)
		}
		reach, _ := prop.Farthest(halves, weights, last)
		if new(big.Rat).Sub(ratio(reach), at[last]).Cmp(whole(halves[last])) != 0 {
			t.Errorf("Centres %v: the last stone does not reach %v", centres, reach)
		}
	})
}

func TestNoPlacingReachesFarther(t *testing.T) { // P7.8
	r := newRandom()
	standing := 0
	for range 20000 {
		halves, weights := randomLoads(r)
		at := randomPlacing(r, halves, weights)
		if !placedStands(halves, weights, at) {
			continue
		}
		standing++
		for stone := range halves {
			reach, _ := prop.Farthest(halves, weights, stone)
			if new(big.Rat).Add(at[stone], whole(halves[stone])).Cmp(ratio(reach)) > 0 {
				t.Fatalf("loads %v with %v: the stone %d reaches farther in %v", halves, weights, stone, at)
			}
		}
		// with At of whole numbers a placing is a pile
		stones := make([]prop.Stone, len(halves))
		for i := range stones {
			floor := new(big.Int).Div(at[i].Num(), at[i].Denom())
			stones[i] = prop.Stone{Half: halves[i], At: int(floor.Int64()), Least: weights[i], Most: weights[i]}
		}
		if is, _ := prop.Stands(stones); is {
			for stone, s := range stones {
				reach, _ := prop.Farthest(halves, weights, stone)
				if whole(s.At+s.Half).Cmp(ratio(reach)) > 0 {
					t.Fatalf("pile %v: the stone %d reaches farther", stones, stone)
				}
			}
		}
	}
	if standing < 5000 {
		t.Errorf("only %d placings stand", standing)
	}
}

// randomPlacing returns a placing that stands often: laid from the last stone on,
// each one beneath the centre of those above it.
func randomPlacing(r *rand.Rand, halves, weights []int) []*big.Rat {
	n := len(halves)
	at := make([]*big.Rat, n)
	at[n-1] = new(big.Rat)
	for i := n - 2; i >= 0; i-- {
		shift := big.NewRat(int64(between(r, -10, 10)*halves[i]), int64(between(r, 9, 10)))
		at[i] = shift.Add(placedCentre(weights, at, i+1), shift.Quo(shift, whole(10)))
	}
	all := placedCentre(weights, at, 0)
	for i := range at {
		at[i] = new(big.Rat).Sub(at[i], all)
	}
	return at
}

func TestBest(t *testing.T) { // P7.9
	r := newRandom()
	for range 200 {
		halves, weights := randomLoads(r)
		wantOrder, wantReach := bestOf(halves, weights)
		order, reach, e := prop.Best(halves, weights)
		wantBest(t, "Best", order, reach, e, wantOrder, lowest(wantReach), api.OK)
		if t.Failed() {
			t.Fatalf("loads %v with %v", halves, weights)
		}
	}
}

func TestBestOfAlmostEqual(t *testing.T) { // P7.9
	r := newRandom()
	for range 100 {
		var halves, weights []int
		for range 5 {
			halves = append(halves, prop.MaxHalf-r.IntN(2))
			weights = append(weights, between(r, 7, 9))
		}
		wantOrder, wantReach := bestOf(halves, weights)
		order, reach, e := prop.Best(halves, weights)
		wantBest(t, "Best", order, reach, e, wantOrder, lowest(wantReach), api.OK)
		if t.Failed() {
			t.Fatalf("loads %v with %v", halves, weights)
		}
	}
}

func TestBestOfSmall(t *testing.T) { // P7.9
	for _, numbers := range tuples(4, 4) {
		halves, weights := numbers[:2], numbers[2:]
		wantOrder, wantReach := bestOf(halves, weights)
		order, reach, e := prop.Best(halves, weights)
		wantBest(t, "Best", order, reach, e, wantOrder, lowest(wantReach), api.OK)
	}
	for _, halves := range tuples(3, 2) {
		for _, weights := range tuples(3, 3) {
			wantOrder, wantReach := bestOf(halves, weights)
			order, reach, e := prop.Best(halves, weights)
			wantBest(t, "Best", order, reach, e, wantOrder, lowest(wantReach), api.OK)
		}
	}
}

// tuples returns all lists of so many numbers from 1 on.
func tuples(length, most int) [][]int {
	all := [][]int{nil}
	for range length {
		var longer [][]int
		for _, l := range all {
			for number := 1; number <= most; number++ {
				longer = append(longer, append(slices.Clone(l), number))
			}
		}
		all = longer
	}
	return all
}
