package saw

import (
	"slices"

	"novaculite/api"
)

// Heights returns the heights of a sawing.
func Heights(s Slab, blanks [][2]int) ([]int, api.Errno) {
	b, sawings, e := sawingsOf(s, blanks)
	if e != api.OK {
		return nil, e
	}
	return b.heights(sawings[0]), api.OK
}

// Turn turns two blanks around a corner.
func Turn(s Slab, blanks [][2]int, corner int) ([][2]int, api.Errno) {
	b, e := boardOf(s)
	if e != api.OK {
		return nil, e
	}
	m, e := b.matesOf(blanks)
	if e != api.OK {
		return nil, e
	}
	if corner < 0 || corner >= b.corners() {
		return nil, api.ErrNone
	}
	x, y := corner%(s.Wide+1), corner/(s.Wide+1)
	around := [4]int{cellAt(s, x-1, y-1), cellAt(s, x, y-1), cellAt(s, x-1, y), cellAt(s, x, y)}
	if slices.Contains(around[:], outside) {
		return nil, api.ErrClash
	}
	turned, can := m.turned(around)
	if !can {
		return nil, api.ErrClash
	}
	return turned.blanks(), api.OK
}

// Lowest returns the lowest sawing.
func Lowest(s Slab) ([][2]int, api.Errno) { return outermost(s, smaller) }

// Highest returns the highest sawing.
func Highest(s Slab) ([][2]int, api.Errno) { return outermost(s, greater) }

// Turns returns how many turns lead from one sawing to another one.
func Turns(s Slab, a, b [][2]int) (int, api.Errno) {
	board, sawings, e := sawingsOf(s, a, b)
	if e != api.OK {
		return 0, e
	}
	from, to := board.heights(sawings[0]), board.heights(sawings[1])
	sum := 0
	for i := range from {
		sum += distance(from[i], to[i])
	}
	return sum / 4, api.OK // each turn changes one height, by 4 (P3.11)
}

// Lower returns the sawing with the smaller ones of the heights of two.
func Lower(s Slab, a, b [][2]int) ([][2]int, api.Errno) { return between(s, a, b, smaller) }

// Higher returns the sawing with the greater ones of the heights of two.
func Higher(s Slab, a, b [][2]int) ([][2]int, api.Errno) { return between(s, a, b, greater) }

func smaller(a, b int) int { return min(a, b) }

func greater(a, b int) int { return max(a, b) }

func distance(a, b int) int { return max(a, b) - min(a, b) }

// outermost returns the sawing with the heights that are chosen of those of all
// sawings of a slab.
func outermost(s Slab, choose func(a, b int) int) ([][2]int, api.Errno) {
	b, _, e := sawingsOf(s)
	if e != api.OK {
		return nil, e
	}
	sawings := b.cuttingsFrom(noMates(), 0, 0)
	if len(sawings) == 0 {
		return nil, api.ErrLost
	}
	return b.joined(sawings, choose).blanks(), api.OK
}

// between returns the sawing with the heights that are chosen of those of two.
func between(s Slab, one, other [][2]int, choose func(a, b int) int) ([][2]int, api.Errno) {
	b, sawings, e := sawingsOf(s, one, other)
	if e != api.OK {
		return nil, e
	}
	return b.joined(sawings, choose).blanks(), api.OK
}

// sawingsOf returns the board of a slab and the sawings that some cuttings are,
// or the error of the slab or the cuttings: ErrShape or ErrOpen if they have no
// heights.
func sawingsOf(s Slab, cuttings ...[][2]int) (*board, []mates, api.Errno) {
	b, e := boardOf(s)
	if e != api.OK {
		return nil, nil, e
	}
	var sawings []mates
	for _, blanks := range cuttings {
		m, e := b.matesOf(blanks)
		if e != api.OK {
			return nil, nil, e
		}
		sawings = append(sawings, m)
	}
	if !b.whole() {
		return nil, nil, api.ErrShape
	}
	if slices.ContainsFunc(sawings, b.leavesOver) {
		return nil, nil, api.ErrOpen
	}
	return b, sawings, api.OK
}

func (b *board) leavesOver(m mates) bool {
	for c := range b.cells {
		if b.unused(m, c) {
			return true
		}
	}
	return false
}

// turned returns the cutting with two blanks turned that have the four cells
// around a corner, row by row, and whether there are such blanks.
func (m mates) turned(around [4]int) (mates, bool) {
	a, b, c, d := around[0], around[1], around[2], around[3]
	switch {
	case m[a] == b && m[c] == d:
		return m.with(a, c).with(b, d), true
	case m[a] == c && m[b] == d:
		return m.with(a, b).with(c, d), true
	}
	return mates{}, false
}

// side is a side of a cell. From one of its ends to the other one the height
// rises by rise, unless the cell and the one across it are a blank.
type side struct {
	from, to int
	rise     int
	across   int
}

func (b *board) sides(cell int) [4]side {
	x, y := cell%b.slab.Wide, cell/b.slab.Wide
	corner := y*(b.slab.Wide+1) + x
	right, below := corner+1, corner+b.slab.Wide+1
	rise := 1 - 2*((x+y)%2)
	return [4]side{
		{corner, right, rise, cellAt(b.slab, x, y-1)},
		{corner, below, -rise, cellAt(b.slab, x-1, y)},
		{right, below + 1, rise, cellAt(b.slab, x+1, y)},
		{below, below + 1, -rise, cellAt(b.slab, x, y+1)},
	}
}

func (b *board) corners() int { return (b.slab.Wide + 1) * (b.slab.High + 1) }

// heights returns the heights of a sawing of a whole slab.
func (b *board) heights(m mates) []int {
	heights, known := make([]int, b.corners()), make([]bool, b.corners())
	first := slices.Index(b.good[:], true)
	known[b.sides(first)[0].from] = true
search:
	for {
		for _, c := range b.good.list() {
			for _, s := range b.sides(c) {
				if s.across == m[c] || known[s.from] == known[s.to] {
					continue
				}
				if known[s.from] {
					heights[s.to] = heights[s.from] + s.rise
				} else {
					heights[s.from] = heights[s.to] - s.rise
				}
				known[s.from], known[s.to] = true, true
				continue search
			}
		}
		return heights
	}
}

// joined returns the sawing whose height is, at each corner, the one that is
// chosen of those of some sawings, of which there is at least one.
func (b *board) joined(sawings []mates, choose func(a, b int) int) mates {
	heights := b.heights(sawings[0])
	for _, m := range sawings[1:] {
		for i, h := range b.heights(m) {
			heights[i] = choose(heights[i], h)
		}
	}
	return b.sawing(heights)
}

// sawing returns the sawing that has some heights: between the two cells of a
// blank, and nowhere else, they differ by 3 along a side.
func (b *board) sawing(heights []int) mates {
	m := noMates()
	for _, c := range b.good.list() {
		for _, s := range b.sides(c) {
			if distance(heights[s.from], heights[s.to]) == 3 {
				m[c] = s.across
			}
		}
	}
	return m
}
