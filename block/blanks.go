package block

import (
	"slices"

	"novaculite/api"
	"novaculite/saw"
)

// Sure returns how many blanks there are wherever the vein is.
func Sure(b Block) (int, api.Errno) {
	v, e := veinOf(b)
	if e != api.OK {
		return 0, e
	}
	sure, _ := v.blanks().least()
	return sure, api.OK
}

// Might returns how many blanks there are at best.
func Might(b Block) (int, api.Errno) {
	v, e := veinOf(b)
	if e != api.OK {
		return 0, e
	}
	return v.blanks().greatest(), api.OK
}

// Worst returns the first truth with the fewest blanks.
func Worst(b Block) (int, api.Errno) {
	v, e := veinOf(b)
	if e != api.OK {
		return 0, e
	}
	_, worst := v.blanks().least()
	return worst, api.OK
}

// Cut returns the first best cutting of the slab of a truth.
func Cut(b Block, cell int) ([][2]int, api.Errno) {
	v, e := veinOf(b)
	if e != api.OK {
		return nil, e
	}
	if !v.canBeIn(cell) {
		return nil, api.ErrNone
	}
	return saw.First(v.slabAt(cell))
}

// Kept returns how many blanks a cutting keeps wherever the vein is.
func Kept(b Block, blanks [][2]int) (int, api.Errno) {
	v, e := veinOf(b)
	if e != api.OK {
		return 0, e
	}
	if e := saw.Valid(v.slab, blanks); e != api.OK {
		return 0, e
	}
	kept, _ := v.keptOf(blanks).least()
	return kept, api.OK
}

// Firm returns how many blanks a cutting can keep.
func Firm(b Block) (int, api.Errno) {
	v, e := veinOf(b)
	if e != api.OK {
		return 0, e
	}
	return v.firm(), api.OK
}

// Plan returns the first best cutting that keeps the most.
func Plan(b Block) ([][2]int, api.Errno) {
	v, e := veinOf(b)
	if e != api.OK {
		return nil, e
	}
	if v.isSafe() {
		return saw.First(v.safe())
	}
	return saw.First(v.slab)
}

// Promise checks a number of blanks that is to be promised.
func Promise(b Block, blanks int) api.Errno {
	v, e := veinOf(b)
	if e != api.OK {
		return e
	}
	sure, _ := v.blanks().least()
	switch {
	case blanks < 0:
		return api.ErrRange
	case blanks > v.blanks().greatest():
		return api.ErrOver
	case blanks > sure:
		return api.ErrOpen
	}
	return api.OK
}

// Bound returns the first truth with the fewest blanks, and a bar that proves that
// there are no more.
func Bound(b Block) (cell int, bar []int, e api.Errno) {
	v, e := veinOf(b)
	if e != api.OK {
		return 0, nil, e
	}
	_, cell = v.blanks().least()
	bar, e = saw.Bar(v.slabAt(cell))
	return cell, bar, e
}

// Proves checks a truth and a bar as a proof that no more blanks are sure.
func Proves(b Block, blanks, cell int, bar []int) api.Errno {
	v, e := veinOf(b)
	if e != api.OK {
		return e
	}
	if !v.canBeIn(cell) {
		return api.ErrNone
	}
	return saw.Proves(v.slabAt(cell), blanks, bar)
}

// most returns how many blanks a best cutting of a slab has.
func most(s saw.Slab) int {
	blanks, _ := saw.Most(s) // the slab was checked with its block
	return blanks
}

// blanks asks how many blanks a best cutting of the slab of a truth has.
func (v vein) blanks() survey {
	return survey{v.truths, func(truth int) int { return most(v.slabAt(truth)) }}
}

// keptOf asks how many blanks of a cutting do not have a truth.
func (v vein) keptOf(cutting [][2]int) survey {
	return survey{v.truths, func(truth int) int {
		kept := 0
		for _, blank := range cutting {
			if !slices.Contains(blank[:], truth) {
				kept++
			}
		}
		return kept
	}}
}

// safe returns the slab of which all truths are spoiled.
func (v vein) safe() saw.Slab { return spoil(v.slab, v.truths) }

// isSafe reports whether some best cutting of the slab has no truth in a blank. Such
// a cutting keeps all its blanks, and any other best one all but one.
func (v vein) isSafe() bool { return most(v.safe()) == most(v.slab) }

// firm returns the number for which the block is firm.
func (v vein) firm() int {
	if v.isSafe() {
		return most(v.slab)
	}
	return most(v.slab) - 1
}
