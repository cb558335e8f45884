package share

import (
	"math/bits"
	"slices"

	"novaculite/api"
	"novaculite/drain"
)

// part is some of the galleries of a hill: a group, or nobody.
type part interface {
	with(gallery int) group
}

// group is at least one gallery: the bit of each of them is 1.
type group uint

type nobody struct{}

func (g group) with(gallery int) group { return g | 1<<gallery }

func (nobody) with(gallery int) group { return 1 << gallery }

// partOf returns the galleries whose bits are 1.
func partOf(galleries group) part {
	if galleries == 0 {
		return nobody{}
	}
	return galleries
}

func (g group) without(gallery int) part { return partOf(g &^ (1 << gallery)) }

func groupOf(list []int) group {
	var g group
	for _, gallery := range list {
		g = g.with(gallery)
	}
	return g
}

func allOf(h drain.Hill) group { return 1<<h.Galleries - 1 }

func (g group) has(gallery int) bool { return g>>gallery&1 == 1 }

func (g group) size() int { return bits.OnesCount(uint(g)) }

func (g group) list() []int {
	var list []int
	for gallery := range drain.MaxGalleries {
		if g.has(gallery) {
			list = append(list, gallery)
		}
	}
	return list
}

// lost stands for the cost of a group that cannot drain alone.
const lost = -1

func (g group) cost(h drain.Hill) int {
	cost, e := Alone(h, g.list())
	if e != api.OK {
		return lost // the hill was checked, and the group is one of its own
	}
	return cost
}

// ask returns what each group of a hill answers, in ascending order of the groups
// as numbers.
func ask(h drain.Hill, question func(group, drain.Hill) int) []int {
	var answers []int
	for g := group(1); g <= allOf(h); g++ {
		answers = append(answers, question(g, h))
	}
	return answers
}

// costs are the costs of all groups of a hill, in the same order.
type costs []int

func costsOf(h drain.Hill) costs { return ask(h, group.cost) }

// of returns the cost of some galleries.
func (c costs) of(p part) int {
	if g, ok := p.(group); ok {
		return c[g-1]
	}
	return 0 // nobody costs nothing
}

// drained returns all groups that can drain alone, in ascending order of their
// lists (R6).
func (c costs) drained() []group {
	var groups []group
	for i, cost := range c {
		if cost != lost {
			groups = append(groups, group(i+1))
		}
	}
	slices.SortFunc(groups, func(g, other group) int { return slices.Compare(g.list(), other.list()) })
	return groups
}
