package prop_test

import (
	"math/big"
	"math/rand/v2"
	"slices"
	"testing"

	"novaculite/api"
	"novaculite/prop"
)

const (
	greatest = int(^uint(0) >> 1)
	smallest = -greatest - 1
)

func list(numbers ...int) []int { return numbers }

// pile returns the stones of numbers, four by four: Half, At, Least, Most.
func pile(numbers ...int) []prop.Stone {
	var stones []prop.Stone
	for four := range slices.Chunk(numbers, 4) {
		stones = append(stones, prop.Stone{Half: four[0], At: four[1], Least: four[2], Most: four[3]})
	}
	return stones
}

func frac(num, den int) prop.Frac { return prop.Frac{Num: num, Den: den} }

// The chapter's piles.

func pileP() []prop.Stone { return pile(4, -2, 3, 3, 4, 2, 1, 2) }

func pileQ() []prop.Stone { return pile(4, -2, 3, 3, 4, 2, 1, 4) }

func pileR() []prop.Stone { return pile(4, 2, 2, 2, 4, -2, 2, 2) }

func wantErrno(t *testing.T, call string, got, want api.Errno) {
	t.Helper()
	if got != want {
		t.Errorf("%s: error %d, want %d", call, got, want)
	}
}

func wantValue[T comparable](t *testing.T, call string, got T, e api.Errno, want T, wantE api.Errno) {
	t.Helper()
	if got != want || e != wantE {
		t.Errorf("%s: %v with error %d, want %v with %d", call, got, e, want, wantE)
	}
}

func wantList[T comparable](t *testing.T, call string, got []T, e api.Errno, want []T, wantE api.Errno) {
	t.Helper()
	if !slices.Equal(got, want) || e != wantE {
		t.Errorf("%s: %v with error %d, want %v with %d", call, got, e, want, wantE)
	}
}

func wantSpan(t *testing.T, call string, low, high prop.Frac, e api.Errno, wantLow, wantHigh prop.Frac, wantE api.Errno) {
	t.Helper()
	if low != wantLow || high != wantHigh || e != wantE {
		t.Errorf("%s: %v and %v with error %d, want %v and %v with %d", call, low, high, e, wantLow, wantHigh, wantE)
	}
}

func wantBest(t *testing.T, call string, order []int, reach prop.Frac, e api.Errno, wantOrder []int, wantReach prop.Frac, wantE api.Errno) {
	t.Helper()
	if !slices.Equal(order, wantOrder) || reach != wantReach || e != wantE {
		t.Errorf("%s: %v and %v with error %d, want %v and %v with %d", call, order, reach, e, wantOrder, wantReach, wantE)
	}
}

// ratio returns a fraction that the package gave.
func ratio(f prop.Frac) *big.Rat { return big.NewRat(int64(f.Num), int64(f.Den)) }

// lowest returns a fraction as the package should give it.
func lowest(r *big.Rat) prop.Frac { return frac(int(r.Num().Int64()), int(r.Denom().Int64())) }

func whole(number int) *big.Rat { return big.NewRat(int64(number), 1) }

func newRandom() *rand.Rand { return rand.New(rand.NewPCG(1, 2)) }

func anyOf[T any](r *rand.Rand, all []T) T { return all[r.IntN(len(all))] }

func between(r *rand.Rand, low, high int) int { return low + r.IntN(high-low+1) }

// edges returns the numbers at which an answer may change.
func edges() []int {
	return list(smallest, -33554433, -33554432, -2, -1, 0, 1, 2, 3, 4, 5, 6, 9, 10, 12, 13,
		4194304, 4194305, 33554432, 33554433, greatest)
}

// shape is what random piles are taken from.
type shape struct{ stones, half, at, weight int }

// shapes has few small numbers, so that moments are often 0, and great ones.
func shapes() []shape {
	return []shape{{3, 3, 3, 3}, {4, 4, 6, 3}, {5, 6, 8, 2}, {5, 20, 30, 3}, {3, 9, 9, 9},
		{4, prop.MaxHalf, prop.MaxAt, 3}, {4, prop.MaxHalf, prop.MaxHalf, 3}}
}

func randomPile(r *rand.Rand) []prop.Stone {
	s := anyOf(r, shapes())
	stones := make([]prop.Stone, between(r, 1, s.stones))
	for i := range stones {
		a, b := between(r, 1, s.weight), between(r, 1, s.weight)
		stones[i] = prop.Stone{Half: between(r, 1, s.half), At: between(r, -s.at, s.at), Least: min(a, b), Most: max(a, b)}
	}
	return stones
}

// randomUpright returns a pile in which each stone lies on the one beneath it,
// so that it stands more often.
func randomUpright(r *rand.Rand) []prop.Stone {
	stones := randomPile(r)
	edge := 0
	for i := range stones {
		s := &stones[i]
		s.At = max(edge-r.IntN(2*s.Half+1), -prop.MaxAt)
		edge = min(s.At+s.Half, prop.MaxAt)
	}
	return stones
}

// smallPiles returns all piles of one stone and of two with small numbers.
func smallPiles() [][]prop.Stone {
	var stones []prop.Stone
	for half := 1; half <= 2; half++ {
		for at := -3; at <= 3; at++ {
			for least := 1; least <= 3; least++ {
				for most := least; most <= 3; most++ {
					stones = append(stones, prop.Stone{Half: half, At: at, Least: least, Most: most})
				}
			}
		}
	}
	var piles [][]prop.Stone
	for _, a := range stones {
		piles = append(piles, []prop.Stone{a})
		for _, b := range stones {
			piles = append(piles, []prop.Stone{a, b})
		}
	}
	return piles
}

// forPiles tells a test all small piles, and random ones.
func forPiles(t *testing.T, test func(r *rand.Rand, stones []prop.Stone)) {
	t.Helper()
	r := newRandom()
	all := smallPiles()
	for range 3000 {
		all = append(all, randomPile(r), randomUpright(r))
	}
	for _, stones := range all {
		if test(r, stones); t.Failed() {
			t.Fatalf("pile %v", stones)
		}
	}
}

// randomLoads returns half lengths and weights.
func randomLoads(r *rand.Rand) (halves, weights []int) {
	most := anyOf(r, list(2, 6, 60, prop.MaxHalf))
	for range between(r, 1, prop.MaxStones) {
		halves = append(halves, between(r, max(1, most-1000), most))
		weights = append(weights, between(r, 1, prop.MaxWeight))
	}
	return halves, weights
}

// forLoads tells a test random loads.
func forLoads(t *testing.T, test func(r *rand.Rand, halves, weights []int)) {
	t.Helper()
	r := newRandom()
	for range 3000 {
		halves, weights := randomLoads(r)
		if test(r, halves, weights); t.Failed() {
			t.Fatalf("loads %v with %v", halves, weights)
		}
	}
}
