package suit_test

import (
	"slices"

	"novaculite/api"
	"novaculite/suit"
)

// The references of this file follow the definitions of the chapter, with no
// thought of speed, and use nothing of what its properties say.

func checkOf(b suit.Book) api.Errno {
	if b.Stones < 1 || b.Stones > 5 {
		return api.ErrRange
	}
	if len(b.Lists) == 0 {
		return api.ErrEmpty
	}
	if len(b.Lists) > 5 {
		return api.ErrMany
	}
	for _, l := range b.Lists {
		if len(l) == 0 {
			return api.ErrShape
		}
		seen := map[int]bool{}
		for _, stone := range l {
			if stone < 0 || stone >= b.Stones {
				return api.ErrNone
			}
			if seen[stone] {
				return api.ErrTwice
			}
			seen[stone] = true
		}
	}
	return api.OK
}

// validOf says what is wrong with a division of a book without an error.
func validOf(b suit.Book, division []int) api.Errno {
	if len(division) != len(b.Lists) {
		return api.ErrShape
	}
	seen := map[int]bool{}
	for smith, stone := range division {
		if stone == -1 {
			continue
		}
		if stone < 0 || stone >= b.Stones {
			return api.ErrNone
		}
		if !slices.Contains(b.Lists[smith], stone) {
			return api.ErrLost
		}
		if seen[stone] {
			return api.ErrTwice
		}
		seen[stone] = true
	}
	return api.OK
}

// known is what can be known of a book: its divisions in their order, and of each
// one the places, the margin, and the index of the first one with this majority
// over it.
type known struct {
	divisions, places [][]int
	margins, winners  []int
}

func allOf(b suit.Book) known {
	var k known
	for _, division := range anyLists(len(b.Lists), append(list(-1), upTo(b.Stones)...)) {
		if validOf(b, division) == api.OK {
			k.divisions = append(k.divisions, division)
			k.places = append(k.places, placesOf(b, division))
		}
	}
	for i := range k.divisions {
		margin, winner := 0, -1
		for j := range k.divisions {
			if by := k.majority(j, i); by > margin {
				margin, winner = by, j
			}
		}
		k.margins = append(k.margins, margin)
		k.winners = append(k.winners, winner)
	}
	return k
}

func placesOf(b suit.Book, division []int) []int {
	var l []int
	for smith, stone := range division {
		place := 0
		for place < len(b.Lists[smith]) && b.Lists[smith][place] != stone {
			place++
		}
		l = append(l, place)
	}
	return l
}

// majority returns the majority of a division over another one, told by their
// indices.
func (k known) majority(i, j int) int {
	there, back := k.votes(i, j)
	return there - back
}

// votes returns how many smiths prefer a division to another one, and how many
// prefer the other one.
func (k known) votes(i, j int) (there, back int) {
	for smith, place := range k.places[i] {
		if place < k.places[j][smith] {
			there++
		}
		if place > k.places[j][smith] {
			back++
		}
	}
	return there, back
}

// better returns the first division that some smith prefers, and to which no
// smith prefers the given one; nil, if there is none.
func (k known) better(i int) []int {
	for j := range k.divisions {
		if there, back := k.votes(j, i); there > 0 && back == 0 {
			return k.divisions[j]
		}
	}
	return nil
}

// popular returns all popular divisions.
func (k known) popular() [][]int {
	var all [][]int
	for i, margin := range k.margins {
		if margin == 0 {
			all = append(all, k.divisions[i])
		}
	}
	return all
}

func servedOf(division []int) int {
	many := 0
	for _, stone := range division {
		if stone >= 0 {
			many++
		}
	}
	return many
}

// largestOf returns the first of the divisions that give a stone to the most
// smiths; nil, if there are none.
func largestOf(divisions [][]int) []int {
	var largest []int
	for _, division := range divisions {
		if largest == nil || servedOf(division) > servedOf(largest) {
			largest = division
		}
	}
	return largest
}

func firstsOf(b suit.Book) []int {
	var all []int
	for stone := range b.Stones {
		if slices.ContainsFunc(b.Lists, func(l []int) bool { return l[0] == stone }) {
			all = append(all, stone)
		}
	}
	return all
}

func wishesOf(b suit.Book) [][2]int {
	var all [][2]int
	for _, l := range b.Lists {
		second := -1
		for _, stone := range slices.Backward(l) {
			if !slices.Contains(firstsOf(b), stone) {
				second = stone
			}
		}
		all = append(all, [2]int{l[0], second})
	}
	return all
}

// hasWishes says whether each first wish is given to a smith whose first wish it
// is, and each smith gets the first or the second wish.
func hasWishes(b suit.Book, division []int) bool {
	wishes := wishesOf(b)
	for smith, stone := range division {
		if stone != wishes[smith][0] && stone != wishes[smith][1] {
			return false
		}
	}
	for _, first := range firstsOf(b) {
		smith := slices.Index(division, first)
		if smith < 0 || wishes[smith][0] != first {
			return false
		}
	}
	return true
}

// provesOf says what is wrong with a list of smiths as a short group of a book
// without an error.
func provesOf(b suit.Book, smiths []int) api.Errno {
	if len(smiths) == 0 {
		return api.ErrEmpty
	}
	for i, smith := range smiths {
		if smith < 0 || smith >= len(b.Lists) {
			return api.ErrNone
		}
		if i > 0 && smith <= smiths[i-1] {
			return api.ErrOrder
		}
	}
	stones := map[int]bool{}
	for _, smith := range smiths {
		wish := wishesOf(b)[smith]
		stones[wish[0]] = true
		stones[wish[1]] = true
	}
	if stones[-1] || len(stones) >= len(smiths) {
		return api.ErrProof
	}
	return api.OK
}

// groupOf returns the first of the short groups with the fewest smiths; nil, if
// there are none.
func groupOf(b suit.Book) []int {
	for number := 1; number <= len(b.Lists); number++ {
		for _, smiths := range anyLists(number, upTo(len(b.Lists))) {
			if provesOf(b, smiths) == api.OK {
				return smiths
			}
		}
	}
	return nil
}
