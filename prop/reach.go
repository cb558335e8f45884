package prop

import (
	"slices"

	"novaculite/api"
)

// order is a list of the numbers of stones, and how far the last one reaches if
// they are piled in it.
type order struct {
	numbers []int
	reach   Frac
}

// Loads returns the error of loads.
func Loads(halves, weights []int) api.Errno {
	_, e := read(halves, weights)
	return e
}

// Farthest returns the greatest reach of a stone.
func Farthest(halves, weights []int, stone int) (Frac, api.Errno) {
	stones, e := read(halves, weights)
	if e != api.OK {
		return Frac{}, e
	}
	if !isFrom(stone, 0, len(stones)-1) {
		return Frac{}, api.ErrNone
	}
	return reach(stones, stone), api.OK
}

// Centres returns the placing in which the last stone reaches farthest.
func Centres(halves, weights []int) ([]Frac, api.Errno) {
	stones, e := read(halves, weights)
	if e != api.OK {
		return nil, e
	}
	centres := make(row[Frac], len(stones))
	for i := range stones {
		centres[i] = levelCentre(stones, i).minus(balance(stones, i))
	}
	return centres, api.OK
}

// Best returns the first order in which the last stone reaches farthest.
func Best(halves, weights []int) ([]int, Frac, api.Errno) {
	stones, e := read(halves, weights)
	if e != api.OK {
		return nil, Frac{}, e
	}
	best := orders(stones).first(func(a, b order) bool { return a.reach.above(b.reach) })
	return best.numbers, best.reach, api.OK
}

// Harmonic returns the sum of 1, a half, a third and so on.
func Harmonic(n int) (Frac, api.Errno) {
	if !isFrom(n, 1, MaxTerms) {
		return Frac{}, api.ErrRange
	}
	sum := Frac{Num: 0, Den: 1}
	for den := 1; den <= n; den++ {
		sum = sum.plus(Frac{Num: 1, Den: den})
	}
	return sum, api.OK
}

// read returns the stones of loads, or what is wrong with them.
func read(halves, weights []int) (row[weighed], api.Errno) {
	if len(halves) == 0 {
		return nil, api.ErrEmpty
	}
	if len(halves) > MaxStones {
		return nil, api.ErrMany
	}
	if len(weights) != len(halves) {
		return nil, api.ErrShape
	}
	pile := make([]Stone, len(halves))
	for i, half := range halves {
		pile[i] = Stone{Half: half, Least: weights[i], Most: weights[i]}
	}
	if e := Check(pile); e != api.OK {
		return nil, e
	}
	return weigh(pile, weights), api.OK
}

// reach returns the greatest reach of a stone: its level and all those below it
// are as far to the right as can be, and the stones above it are a
// counterweight as far to the left.
func reach(stones row[weighed], stone int) Frac {
	half := Frac{Num: stones[stone].Half, Den: 1}
	return levelCentre(stones, stone).plus(balance(stones, stone)).plus(half)
}

// levelCentre returns the greatest centre that a level can have: that of each
// level is above the edge beneath it.
func levelCentre(stones row[weighed], level int) Frac {
	at := Frac{Num: 0, Den: 1}
	for i, stone := range stones[:level] {
		at = at.plus(fraction(stone.Half*stone.weight, weightOf(stones[i:])))
	}
	return at
}

// balance returns how far the middle of a stone is from the centre of its level
// if the centre of the stones above it is above one of its edges.
func balance(stones row[weighed], stone int) Frac {
	above := weightOf(stones[stone+1:])
	return fraction(stones[stone].Half*above, stones[stone].weight+above)
}

// orders returns all orders of stones, the first ones first.
func orders(stones row[weighed]) row[order] {
	var all row[order]
	for _, numbers := range arrangements(len(stones)) {
		piled := make(row[weighed], len(stones))
		for place, number := range numbers {
			piled[place] = stones[number]
		}
		all = append(all, order{numbers, reach(piled, len(piled)-1)})
	}
	return all
}

// arrangements returns all orders of the numbers below one, the first ones first.
func arrangements(below int) [][]int {
	all := [][]int{nil}
	for range below {
		var longer [][]int
		for _, beginning := range all {
			for number := range below {
				if !slices.Contains(beginning, number) {
					longer = append(longer, append(slices.Clone(beginning), number))
				}
			}
		}
		all = longer
	}
	return all
}
