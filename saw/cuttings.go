package saw

import (
	"slices"

	"novaculite/api"
)

// Valid checks a cutting.
func Valid(s Slab, blanks [][2]int) api.Errno {
	b, e := boardOf(s)
	if e != api.OK {
		return e
	}
	_, e = b.matesOf(blanks)
	return e
}

// Most returns the greatest number of blanks.
func Most(s Slab) (int, api.Errno) {
	b, e := boardOf(s)
	if e != api.OK {
		return 0, e
	}
	return b.most(), api.OK
}

// First returns the first best cutting.
func First(s Slab) ([][2]int, api.Errno) {
	b, e := boardOf(s)
	if e != api.OK {
		return nil, e
	}
	return b.best()[0].blanks(), api.OK
}

// Count returns how many best cuttings there are.
func Count(s Slab) (int, api.Errno) {
	b, e := boardOf(s)
	if e != api.OK {
		return 0, e
	}
	return len(b.best()), api.OK
}

// Idle returns the cells that some best cutting leaves over.
func Idle(s Slab) ([]int, api.Errno) {
	b, e := boardOf(s)
	if e != api.OK {
		return nil, e
	}
	var idle marks
	for _, m := range b.best() {
		for c := range b.cells {
			idle[c] = idle[c] || b.unused(m, c)
		}
	}
	return idle.list(), api.OK
}

// Sure returns the blanks that are in every best cutting.
func Sure(s Slab) ([][2]int, api.Errno) {
	b, e := boardOf(s)
	if e != api.OK {
		return nil, e
	}
	best := b.best()
	unsure := func(blank [2]int) bool {
		return slices.ContainsFunc(best, func(m mates) bool { return !m.has(blank) })
	}
	return slices.DeleteFunc(best[0].blanks(), unsure), api.OK
}

// Bar returns the first of the shortest bars.
func Bar(s Slab) ([]int, api.Errno) {
	b, e := boardOf(s)
	if e != api.OK {
		return nil, e
	}
	bar, _ := b.barFrom(marks{}, 0, b.most()) // the shortest bars have so many cells (P3.10)
	return bar.list(), api.OK
}

// Proves checks a bar as a proof that there are at most so many blanks.
func Proves(s Slab, blanks int, cells []int) api.Errno {
	b, e := boardOf(s)
	if e != api.OK {
		return e
	}
	if blanks < 0 {
		return api.ErrRange
	}
	var in marks
	for i, c := range cells {
		if e := checkCell(s, cells, i); e != api.OK {
			return e
		}
		if !b.good[c] {
			return api.ErrClash
		}
		in[c] = true
	}
	if !b.barred(in) {
		return api.ErrOpen
	}
	if len(cells) > blanks {
		return api.ErrProof
	}
	return api.OK
}

// mates is a cutting: it has for each cell the other cell of its blank, or the
// cell itself if it is in no blank.
type mates [MaxCells]int

func noMates() mates {
	var m mates
	for c := range m {
		m[c] = c
	}
	return m
}

// with returns the cutting with one blank more.
func (m mates) with(one, other int) mates {
	m[one], m[other] = other, one
	return m
}

func (m mates) has(blank [2]int) bool { return m[blank[0]] == blank[1] }

func (m mates) blanks() [][2]int {
	var blanks [][2]int
	for c, other := range m {
		if c < other {
			blanks = append(blanks, [2]int{c, other})
		}
	}
	return blanks
}

// matesOf returns the cutting that has some blanks, or the error of these.
func (b *board) matesOf(blanks [][2]int) (mates, api.Errno) {
	m := noMates()
	for i, blank := range blanks {
		one, other := blank[0], blank[1]
		switch {
		case !hasCell(b.slab, one) || !hasCell(b.slab, other):
			return mates{}, api.ErrNone
		case one >= other || !slices.Contains(b.near[one], other):
			return mates{}, api.ErrShape
		case i > 0 && slices.Compare(blank[:], blanks[i-1][:]) <= 0:
			return mates{}, api.ErrOrder
		case !b.good[one] || !b.good[other]:
			return mates{}, api.ErrClash
		case !b.unused(m, one) || !b.unused(m, other):
			return mates{}, api.ErrTwice
		}
		m = m.with(one, other)
	}
	return m, api.OK
}

// unused reports whether a cell is good and in no blank.
func (b *board) unused(m mates, cell int) bool { return b.good[cell] && m[cell] == cell }

// best returns all best cuttings, in ascending order. There is at least one.
func (b *board) best() []mates {
	var best []mates
	for spare := 0; len(best) == 0; spare++ {
		best = b.cuttingsFrom(noMates(), 0, spare)
	}
	return best
}

func (b *board) most() int { return len(b.best()[0].blanks()) }

// cuttingsFrom returns the cuttings that have, besides some blanks, only blanks
// of cells from one cell on, and of these cells leave at most so many over. The
// order is ascending among cuttings with equally many blanks.
func (b *board) cuttingsFrom(m mates, cell, spare int) []mates {
	for cell < b.cells && !b.unused(m, cell) {
		cell++
	}
	if cell == b.cells {
		return []mates{m}
	}
	var cuttings []mates
	for _, n := range b.near[cell] {
		if n > cell && b.unused(m, n) {
			cuttings = append(cuttings, b.cuttingsFrom(m.with(cell, n), cell+1, spare)...)
		}
	}
	if spare > 0 {
		cuttings = append(cuttings, b.cuttingsFrom(m, cell+1, spare-1)...)
	}
	return cuttings
}

// barred reports whether the marked cells are a bar.
func (b *board) barred(in marks) bool {
	for c := range b.cells {
		if b.missing(in, c) {
			return false
		}
	}
	return true
}

// missing reports whether neither a good cell nor one of its good neighbours
// before it is marked.
func (b *board) missing(in marks, cell int) bool {
	unmarked := func(c int) bool { return b.good[c] && !in[c] }
	return unmarked(cell) && slices.ContainsFunc(b.near[cell], func(n int) bool { return n < cell && unmarked(n) })
}

// barFrom returns the first bar that has the marked ones of the cells before some
// cell, and at most so many of those from it on, if none has fewer; and whether
// there is one.
func (b *board) barFrom(in marks, cell, number int) (marks, bool) {
	if cell == b.cells {
		return in, true
	}
	if b.good[cell] && number > 0 {
		longer := in
		longer[cell] = true
		if bar, found := b.barFrom(longer, cell+1, number-1); found {
			return bar, true
		}
	}
	if b.missing(in, cell) {
		return marks{}, false
	}
	return b.barFrom(in, cell+1, number)
}
