package block

import (
	"slices"

	"novaculite/api"
	"novaculite/seam"
)

// Gain returns by how much Firm becomes greater with one gallery more.
func Gain(b Block, g seam.Gallery) (int, api.Errno) {
	v, e := veinOf(b)
	if e != api.OK {
		return 0, e
	}
	if _, e := seam.Opposite(g); e != api.OK {
		return 0, e
	}
	return v.gain(g), api.OK
}

// Ask returns the first of the best galleries that are offered.
func Ask(b Block, offered []seam.Gallery) (int, api.Errno) {
	v, e := veinOf(b)
	if e != api.OK {
		return 0, e
	}
	if len(offered) == 0 {
		return 0, api.ErrEmpty
	}
	if e := checkOffered(offered); e != api.OK {
		return 0, e
	}
	best := 0
	for i, g := range offered {
		if v.isBetter(g, offered[best]) {
			best = i
		}
	}
	return best, api.OK
}

// Questions returns how many galleries must be dug until the block is firm for a
// number of blanks.
func Questions(b Block, offered []seam.Gallery, blanks int) (int, api.Errno) {
	v, e := veinOf(b)
	if e != api.OK {
		return 0, e
	}
	if blanks < 0 {
		return 0, api.ErrRange
	}
	if e := checkOffered(offered); e != api.OK {
		return 0, e
	}
	if leastFirm(v.cases(offered)) < blanks {
		return 0, api.ErrClash
	}
	return v.questions(offered, blanks), api.OK
}

// checkOffered returns the error of galleries that are offered.
func checkOffered(offered []seam.Gallery) api.Errno {
	if len(offered) > MaxOffered {
		return api.ErrMany
	}
	for _, g := range offered {
		if _, e := seam.Opposite(g); e != api.OK {
			return e
		}
	}
	return api.OK
}

// answers returns what is known of the vein after each answer of a gallery that
// occurs.
func (v vein) answers(g seam.Gallery) []vein {
	opposite, _ := seam.Opposite(g) // the gallery was checked
	var after []vein
	for _, shown := range []seam.Gallery{g, opposite} {
		agreeing := regionOf(seam.Hill{Size: v.slab.Wide, Galleries: []seam.Gallery{shown}})
		left := slices.DeleteFunc(agreeing, func(cell int) bool { return !v.canBeIn(cell) })
		if len(left) > 0 {
			after = append(after, vein{v.slab, left})
		}
	}
	return after
}

// cases returns what is known of the vein after all answers of some galleries that
// occur together.
func (v vein) cases(galleries []seam.Gallery) []vein {
	cases := []vein{v}
	for _, g := range galleries {
		var after []vein
		for _, c := range cases {
			after = append(after, c.answers(g)...)
		}
		cases = after
	}
	return cases
}

// leastFirm returns the smallest number for which the block is firm in some case.
func leastFirm(cases []vein) int {
	least := cases[0].firm()
	for _, c := range cases[1:] {
		least = min(least, c.firm())
	}
	return least
}

// gain returns by how much the number for which the block is firm becomes greater
// at least, whatever a gallery shows.
func (v vein) gain(g seam.Gallery) int { return leastFirm(v.answers(g)) - v.firm() }

// leaves returns how many truths the worse answer of a gallery leaves.
func (v vein) leaves(g seam.Gallery) int {
	truths := 0
	for _, after := range v.answers(g) {
		truths = max(truths, len(after.truths))
	}
	return truths
}

// isBetter reports whether a gallery is worth more than another one.
func (v vein) isBetter(g, than seam.Gallery) bool {
	if gain, other := v.gain(g), v.gain(than); gain != other {
		return gain > other
	}
	return v.leaves(g) < v.leaves(than)
}

// questions returns how many of some galleries must be dug, at most, until the
// block is firm for a number of blanks, as it is when all of them are dug.
func (v vein) questions(offered []seam.Gallery, blanks int) int {
	for number := range offered {
		if v.suffice(offered, blanks, number) {
			return number
		}
	}
	return len(offered)
}

// suffice reports whether the block becomes firm for a number of blanks if so many
// of some galleries are dug, each one chosen by what those before have shown.
func (v vein) suffice(offered []seam.Gallery, blanks, number int) bool {
	if number == 0 {
		return v.firm() >= blanks
	}
	return slices.ContainsFunc(offered, func(g seam.Gallery) bool {
		for _, after := range v.answers(g) {
			if !after.suffice(offered, blanks, number-1) {
				return false
			}
		}
		return true
	})
}
