package prop_test

import (
	"math/big"
	"slices"

	"novaculite/api"
	"novaculite/prop"
)

// The functions of this file say again, in the plainest way, what the chapter
// defines; no one of them uses the package's functions.

// checkOf says what is wrong with a pile.
func checkOf(stones []prop.Stone) api.Errno {
	if len(stones) == 0 {
		return api.ErrEmpty
	}
	if len(stones) > 5 {
		return api.ErrMany
	}
	for _, s := range stones {
		if s.Half < 1 || s.Half > 4194304 || s.At < -33554432 || s.At > 33554432 || s.Least < 1 || s.Least > 9 || s.Most < 1 || s.Most > 9 {
			return api.ErrRange
		}
		if s.Least > s.Most {
			return api.ErrOrder
		}
	}
	return api.OK
}

// checkWeightsOf says what is wrong with weights of a pile.
func checkWeightsOf(stones []prop.Stone, weights []int) api.Errno {
	if len(weights) != len(stones) {
		return api.ErrShape
	}
	for i, s := range stones {
		if weights[i] < s.Least || weights[i] > s.Most {
			return api.ErrRange
		}
	}
	return api.OK
}

// checkLoadsOf says what is wrong with loads.
func checkLoadsOf(halves, weights []int) api.Errno {
	if len(halves) == 0 {
		return api.ErrEmpty
	}
	if len(halves) > 5 {
		return api.ErrMany
	}
	if len(halves) != len(weights) {
		return api.ErrShape
	}
	for i := range halves {
		if halves[i] < 1 || halves[i] > 4194304 || weights[i] < 1 || weights[i] > 9 {
			return api.ErrRange
		}
	}
	return api.OK
}

// truthsOf returns all truths of a pile.
func truthsOf(stones []prop.Stone) [][]int {
	truths := [][]int{nil}
	for _, s := range stones {
		var longer [][]int
		for _, truth := range truths {
			for weight := s.Least; weight <= s.Most; weight++ {
				longer = append(longer, append(slices.Clone(truth), weight))
			}
		}
		truths = longer
	}
	return truths
}

func rightEdgeOf(stones []prop.Stone, level int) int {
	if level == 0 {
		return 0
	}
	return stones[level-1].At + stones[level-1].Half
}

func leftEdgeOf(stones []prop.Stone, level int) int { return stones[level-1].At - stones[level-1].Half }

func momentOf(stones []prop.Stone, truth []int, level, side int) int {
	sum := 0
	for i := level; i < len(stones); i++ {
		if side == 1 {
			sum += truth[i] * (stones[i].At - rightEdgeOf(stones, level))
		} else {
			sum += truth[i] * (leftEdgeOf(stones, level) - stones[i].At)
		}
	}
	return sum
}

func tipsIn(stones []prop.Stone, truth []int, level int) bool {
	return momentOf(stones, truth, level, 1) > 0 || level > 0 && momentOf(stones, truth, level, -1) > 0
}

func mayTipOf(stones []prop.Stone, level int) bool {
	return slices.ContainsFunc(truthsOf(stones), func(truth []int) bool { return tipsIn(stones, truth, level) })
}

// tipsOf returns the lowest level that may tip, if there is one.
func tipsOf(stones []prop.Stone) (level int, found bool) {
	for level := range stones {
		if mayTipOf(stones, level) {
			return level, true
		}
	}
	return 0, false
}

func standsOf(stones []prop.Stone) bool {
	_, found := tipsOf(stones)
	return !found
}

func worstOf(stones []prop.Stone, level, side int) []int {
	var truth []int
	for i, s := range stones {
		heavy := side == 1 && s.At > rightEdgeOf(stones, level) || side == -1 && s.At < leftEdgeOf(stones, level)
		if i >= level && heavy {
			truth = append(truth, s.Most)
		} else {
			truth = append(truth, s.Least)
		}
	}
	return truth
}

func centreOf(stones []prop.Stone, truth []int, level int) *big.Rat {
	sum, weight := 0, 0
	for i := level; i < len(stones); i++ {
		sum += truth[i] * stones[i].At
		weight += truth[i]
	}
	return big.NewRat(int64(sum), int64(weight))
}

func spanOf(stones []prop.Stone, level int) (low, high *big.Rat) {
	for _, truth := range truthsOf(stones) {
		centre := centreOf(stones, truth, level)
		if low == nil || centre.Cmp(low) < 0 {
			low = centre
		}
		if high == nil || centre.Cmp(high) > 0 {
			high = centre
		}
	}
	return low, high
}

// movedOf returns a pile of which all stones from one on are moved to the right.
func movedOf(stones []prop.Stone, stone, far int) []prop.Stone {
	after := slices.Clone(stones)
	for i := stone; i < len(after); i++ {
		after[i].At += far
	}
	return after
}

// layOf returns how many of the lowest stones do not stand for sure, if there are such.
func layOf(stones []prop.Stone) (k int, found bool) {
	for k := 1; k <= len(stones); k++ {
		if !standsOf(stones[:k]) {
			return k, true
		}
	}
	return 0, false
}

// placedStands reports whether a placing of loads stands.
func placedStands(halves, weights []int, at []*big.Rat) bool {
	for level := range halves {
		centre := placedCentre(weights, at, level)
		if level == 0 {
			if centre.Sign() > 0 {
				return false
			}
			continue
		}
		beneath, half := at[level-1], whole(halves[level-1])
		if centre.Cmp(new(big.Rat).Add(beneath, half)) > 0 || centre.Cmp(new(big.Rat).Sub(beneath, half)) < 0 {
			return false
		}
	}
	return true
}

func placedCentre(weights []int, at []*big.Rat, level int) *big.Rat {
	sum, weight := new(big.Rat), 0
	for i := level; i < len(weights); i++ {
		sum.Add(sum, new(big.Rat).Mul(whole(weights[i]), at[i]))
		weight += weights[i]
	}
	return sum.Quo(sum, whole(weight))
}

// cornersOf returns the placings in which the centre of each level is above one of
// the two edges beneath it, and that of all stones above the rock's edge. A reach
// is a sum of Ats, and what stands is bounded by such sums; so the greatest reach
// of a stone is found in one of these placings. They are laid from the last stone on.
func cornersOf(halves, weights []int) [][]*big.Rat {
	n := len(halves)
	var corners [][]*big.Rat
	for signs := range 1 << (n - 1) {
		at := make([]*big.Rat, n)
		at[n-1] = new(big.Rat)
		for i := n - 2; i >= 0; i-- {
			half := whole(halves[i])
			if signs>>i&1 == 1 {
				half.Neg(half)
			}
			at[i] = half.Add(half, placedCentre(weights, at, i+1))
		}
		all := placedCentre(weights, at, 0)
		for i := range at {
			at[i] = new(big.Rat).Sub(at[i], all)
		}
		corners = append(corners, at)
	}
	return corners
}

// farthestOf returns the greatest reach of a stone, and a placing with this reach.
func farthestOf(halves, weights []int, stone int) (reach *big.Rat, at []*big.Rat) {
	for _, corner := range cornersOf(halves, weights) {
		far := new(big.Rat).Add(corner[stone], whole(halves[stone]))
		if reach == nil || far.Cmp(reach) > 0 {
			reach, at = far, corner
		}
	}
	return reach, at
}

// ordersOf returns all orders of the numbers below one, in no particular order.
func ordersOf(below int) [][]int {
	if below == 0 {
		return [][]int{nil}
	}
	var all [][]int
	for _, order := range ordersOf(below - 1) {
		for i := range below {
			all = append(all, slices.Insert(slices.Clone(order), i, below-1))
		}
	}
	return all
}

func inOrder(l, order []int) []int {
	var ordered []int
	for _, i := range order {
		ordered = append(ordered, l[i])
	}
	return ordered
}

func bestOf(halves, weights []int) (best []int, reach *big.Rat) {
	for _, order := range ordersOf(len(halves)) {
		far, _ := farthestOf(inOrder(halves, order), inOrder(weights, order), len(order)-1)
		if reach == nil || far.Cmp(reach) > 0 || far.Cmp(reach) == 0 && slices.Compare(order, best) < 0 {
			best, reach = order, far
		}
	}
	return best, reach
}
