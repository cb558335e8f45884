package block_test

import (
	"fmt"
	"slices"

	"novaculite/api"
	"novaculite/block"
	"novaculite/seam"
)

// The references of this file follow the definitions of the chapters, with no
// thought of speed, and use nothing of what their properties say.

func agrees(g seam.Gallery, cell, size int) bool {
	x, y := cell%size, cell/size
	return g.A*x+g.B*y <= g.C
}

func truthsOf(b block.Block) []int {
	var truths []int
	for c := range b.Size * b.Size {
		can := true
		for _, g := range b.Galleries {
			can = can && agrees(g, c, b.Size)
		}
		if can {
			truths = append(truths, c)
		}
	}
	return truths
}

func soundOf(b block.Block) []int {
	var sound []int
	for c := range b.Size * b.Size {
		if !slices.Contains(b.Spoiled, c) && !slices.Contains(truthsOf(b), c) {
			sound = append(sound, c)
		}
	}
	return sound
}

// blanksOf returns all blanks of the slab of a block, in ascending order.
func blanksOf(b block.Block) [][2]int {
	var blanks [][2]int
	for c := range b.Size * b.Size {
		for other := range b.Size * b.Size {
			x, y := other%b.Size-c%b.Size, other/b.Size-c/b.Size
			isGood := !slices.Contains(b.Spoiled, c) && !slices.Contains(b.Spoiled, other)
			if isGood && (x == 1 && y == 0 || x == 0 && y == 1) {
				blanks = append(blanks, [2]int{c, other})
			}
		}
	}
	return blanks
}

// cuttingsOf returns all cuttings of the slab of a block, in ascending order.
func cuttingsOf(b block.Block) [][][2]int {
	blanks := blanksOf(b)
	var all [][][2]int
	var add func(chosen [][2]int, from int)
	add = func(chosen [][2]int, from int) {
		all = append(all, chosen)
		for i := from; i < len(blanks); i++ {
			isClear := !slices.ContainsFunc(chosen, func(blank [2]int) bool {
				return hasCell(blank, blanks[i][0]) || hasCell(blank, blanks[i][1])
			})
			if isClear {
				add(append(slices.Clone(chosen), blanks[i]), i+1)
			}
		}
	}
	add(nil, 0)
	return all
}

func hasCell(blank [2]int, cell int) bool { return blank[0] == cell || blank[1] == cell }

// plain is a block, its truths, and all cuttings of its slab; of truths it is noted
// how firm the block is for them.
type plain struct {
	b        block.Block
	truths   []int
	cuttings [][][2]int
	firms    map[string]int
}

func plainOf(b block.Block) plain {
	return plain{b, truthsOf(b), cuttingsOf(b), map[string]int{}}
}

// cut returns the first of the best cuttings of the slab in which a cell is spoiled,
// too.
func (p plain) cut(cell int) [][2]int {
	var best [][2]int
	for _, c := range p.cuttings {
		isSpoiled := slices.ContainsFunc(c, func(blank [2]int) bool { return hasCell(blank, cell) })
		if !isSpoiled && len(c) > len(best) {
			best = c
		}
	}
	return best
}

func (p plain) sure() (sure, might, worst int) {
	for i, truth := range p.truths {
		blanks := len(p.cut(truth))
		if i == 0 || blanks < sure {
			sure, worst = blanks, truth
		}
		might = max(might, blanks)
	}
	return sure, might, worst
}

// kept returns what a cutting keeps if the vein can be in some cells.
func kept(cutting [][2]int, truths []int) int {
	least := len(cutting)
	for _, truth := range truths {
		number := 0
		for _, blank := range cutting {
			if !hasCell(blank, truth) {
				number++
			}
		}
		least = min(least, number)
	}
	return least
}

// firm returns the number for which the block is firm if the vein can be in some
// cells.
func (p plain) firm(truths []int) int {
	key := fmt.Sprint(truths)
	if known, found := p.firms[key]; found {
		return known
	}
	most := 0
	for _, c := range p.cuttings {
		if len(c) > most {
			most = max(most, kept(c, truths))
		}
	}
	p.firms[key] = most
	return most
}

func (p plain) plan() [][2]int {
	var best [][2]int
	for _, c := range p.cuttings {
		if len(c) > len(best) || len(c) == len(best) && kept(c, p.truths) > kept(best, p.truths) {
			best = c
		}
	}
	return best
}

// shown returns the truths that each answer of a gallery leaves; one of them may be
// none.
func (p plain) shown(g seam.Gallery, truths []int) [2][]int {
	var left [2][]int
	for _, truth := range truths {
		if agrees(g, truth, p.b.Size) {
			left[0] = append(left[0], truth)
		} else {
			left[1] = append(left[1], truth)
		}
	}
	return left
}

func (p plain) gain(g seam.Gallery) int {
	least := greatest
	for _, left := range p.shown(g, p.truths) {
		if len(left) > 0 {
			least = min(least, p.firm(left)-p.firm(p.truths))
		}
	}
	return least
}

func (p plain) ask(offered []seam.Gallery) int {
	best, bestGain, bestLeft := -1, 0, 0
	for i, g := range offered {
		left := p.shown(g, p.truths)
		gain, worse := p.gain(g), max(len(left[0]), len(left[1]))
		if best < 0 || gain > bestGain || gain == bestGain && worse < bestLeft {
			best, bestGain, bestLeft = i, gain, worse
		}
	}
	return best
}

// never is in place of a number of galleries if not all of them together suffice.
const never = 99

// questions returns how many galleries must be dug if the vein can be in some cells.
func (p plain) questions(truths []int, offered []seam.Gallery, blanks int) int {
	if len(truths) == 0 || p.firm(truths) >= blanks {
		return 0
	}
	fewest := never
	for i, g := range offered {
		others := slices.Delete(slices.Clone(offered), i, i+1)
		left := p.shown(g, truths)
		most := max(p.questions(left[0], others, blanks), p.questions(left[1], others, blanks))
		fewest = min(fewest, 1+most)
	}
	return min(fewest, never)
}

// checkOf says what is wrong with a block.
func checkOf(b block.Block) api.Errno {
	if b.Size < 1 || b.Size > 4 {
		return api.ErrRange
	}
	for i, c := range b.Spoiled {
		if c < 0 || c >= b.Size*b.Size {
			return api.ErrNone
		}
		if i > 0 && c <= b.Spoiled[i-1] {
			return api.ErrOrder
		}
	}
	if len(b.Galleries) > 10 {
		return api.ErrMany
	}
	return errorOf(b.Galleries)
}

// errorOf says what is wrong with the first wrong one of some galleries.
func errorOf(all []seam.Gallery) api.Errno {
	for _, g := range all {
		if g.A < -9 || g.A > 9 || g.B < -9 || g.B > 9 || g.C < -201 || g.C > 200 {
			return api.ErrRange
		}
		if g.A == 0 && g.B == 0 {
			return api.ErrShape
		}
	}
	return api.OK
}
