package prop

import (
	"slices"
	"sort"

	"novaculite/api"
)

// The sides.
const (
	right = 1
	left  = -1
)

// Stands reports whether a pile stands for sure.
func Stands(pile []Stone) (bool, api.Errno) {
	if e := Check(pile); e != api.OK {
		return false, e
	}
	return stands(pile), api.OK
}

// Tips returns the lowest level that may tip.
func Tips(pile []Stone) (int, api.Errno) {
	if e := Check(pile); e != api.OK {
		return 0, e
	}
	for level := range pile {
		if mayTip(pile, level) {
			return level, api.OK
		}
	}
	return 0, api.ErrClash
}

// Worst returns the worst truth of a level.
func Worst(pile []Stone, level, side int) ([]int, api.Errno) {
	if e := checkSide(pile, level, side); e != api.OK {
		return nil, e
	}
	return worst(pile, level, side), api.OK
}

// Moment returns the moment of a level.
func Moment(pile []Stone, weights []int, level, side int) (int, api.Errno) {
	if e := checkSide(pile, level, side); e != api.OK {
		return 0, e
	}
	if e := checkTruth(pile, weights); e != api.OK {
		return 0, e
	}
	return moment(pile, weights, level, side), api.OK
}

// Proves checks that a level tips in a truth.
func Proves(pile []Stone, weights []int, level int) api.Errno {
	if e := checkPlace(pile, level); e != api.OK {
		return e
	}
	if e := checkTruth(pile, weights); e != api.OK {
		return e
	}
	for _, side := range sidesOf(level) {
		if moment(pile, weights, level, side) > 0 {
			return api.OK
		}
	}
	return api.ErrProof
}

// Span returns the smallest and the greatest centre of a level.
func Span(pile []Stone, level int) (low, high Frac, e api.Errno) {
	if e := checkPlace(pile, level); e != api.OK {
		return Frac{}, Frac{}, e
	}
	low = extremes(pile, level, left).first(Frac.below)
	high = extremes(pile, level, right).first(Frac.above)
	return low, high, api.OK
}

// Slack returns how far stones can be moved.
func Slack(pile []Stone, stone int) (int, api.Errno) {
	if e := checkPlace(pile, stone); e != api.OK {
		return 0, e
	}
	if !stands(pile) {
		return 0, api.ErrLost
	}
	// in a pile that stands, a level lies at most MaxAt to the left of the rock's
	// edge, and at most 2 MaxHalf, which is less, to the left of a stone's one
	return sort.Search(MaxAt, func(far int) bool {
		return !stands(moved(pile, stone, far+1))
	}), api.OK
}

// Lay returns the first number of stones that may tip.
func Lay(pile []Stone) (int, api.Errno) {
	if e := Check(pile); e != api.OK {
		return 0, e
	}
	for i := range pile {
		if !stands(pile[:i+1]) {
			return i + 1, api.OK
		}
	}
	return 0, api.ErrClash
}

// checkSide returns the error of a pile, one of its levels and a side.
func checkSide(pile []Stone, level, side int) api.Errno {
	if e := checkPlace(pile, level); e != api.OK {
		return e
	}
	if side != right && side != left {
		return api.ErrRange
	}
	if !slices.Contains(sidesOf(level), side) {
		return api.ErrOpen
	}
	return api.OK
}

// checkTruth returns the error of weights that shall be a truth of a pile.
func checkTruth(pile []Stone, weights []int) api.Errno {
	if len(weights) != len(pile) {
		return api.ErrShape
	}
	for i, weight := range weights {
		if !isFrom(weight, pile[i].Least, pile[i].Most) {
			return api.ErrRange
		}
	}
	return api.OK
}

// sidesOf returns the sides on which there is an edge beneath a level.
func sidesOf(level int) []int {
	if level == 0 {
		return []int{right}
	}
	return []int{right, left}
}

// edge returns the edge beneath a level on a side.
func edge(pile []Stone, level, side int) int {
	if level == 0 {
		return 0
	}
	beneath := pile[level-1]
	return beneath.At + side*beneath.Half
}

func stands(pile []Stone) bool {
	for level := range pile {
		if mayTip(pile, level) {
			return false
		}
	}
	return true
}

// mayTip takes from P7.11 that worst truths are enough.
func mayTip(pile []Stone, level int) bool {
	for _, side := range sidesOf(level) {
		if moment(pile, worst(pile, level, side), level, side) > 0 {
			return true
		}
	}
	return false
}

func moment(pile []Stone, weights []int, level, side int) int {
	from := edge(pile, level, side)
	return weigh(pile, weights)[level:].sum(func(s weighed) int {
		return s.weight * (s.At - from) * side
	})
}

func worst(pile []Stone, level, side int) []int {
	return leaning(pile, level, side, edge(pile, level, side))
}

// leaning returns the truth in which stones of a level that are beyond a place
// on a side are as heavy as can be, and all others as light.
func leaning(pile []Stone, level, side, place int) []int {
	weights := make([]int, len(pile))
	for i, stone := range pile {
		weights[i] = stone.Least
		if i >= level && (stone.At-place)*side > 0 {
			weights[i] = stone.Most
		}
	}
	return weights
}

// extremes returns the centres of a level in the truths that lean beyond one of
// its stones. The centre farthest to the side is among them: it is that of a
// truth that leans beyond this centre, and the same truth leans beyond the last
// stone before it.
func extremes(pile []Stone, level, side int) row[Frac] {
	var centres row[Frac]
	for _, stone := range pile[level:] {
		weights := leaning(pile, level, side, stone.At)
		centres = append(centres, centre(weigh(pile, weights)[level:]))
	}
	return centres
}

// moved returns a pile of which all stones from one on are moved to the right.
func moved(pile []Stone, stone, far int) []Stone {
	after := slices.Clone(pile)
	for i := stone; i < len(after); i++ {
		after[i].At += far
	}
	return after
}
