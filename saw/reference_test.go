package saw_test

import (
	"cmp"
	"slices"

	"novaculite/saw"
)

// The functions of this file say again, in the plainest way, what the chapter
// defines; no one of them uses the package's functions.

func isGood(s saw.Slab, cell int) bool { return !slices.Contains(s.Spoiled, cell) }

func goodOf(s saw.Slab) []int {
	var good []int
	for c := range s.Wide * s.High {
		if isGood(s, c) {
			good = append(good, c)
		}
	}
	return good
}

// isNext reports whether two cells are neighbours.
func isNext(s saw.Slab, c, d int) bool {
	x, y := c%s.Wide-d%s.Wide, c/s.Wide-d/s.Wide
	return x*x+y*y == 1
}

func isDark(s saw.Slab, cell int) bool { return (cell%s.Wide+cell/s.Wide)%2 == 0 }

// comesTo reports whether one comes from one cell over neighbours in a list to one that fits.
func comesTo(s saw.Slab, cells []int, from int, fits func(int) bool) bool {
	seen := list(from)
	for i := 0; i < len(seen); i++ {
		if fits(seen[i]) {
			return true
		}
		for _, c := range cells {
			if isNext(s, seen[i], c) && !slices.Contains(seen, c) {
				seen = append(seen, c)
			}
		}
	}
	return false
}

func isWhole(s saw.Slab) bool {
	good := goodOf(s)
	for _, c := range good {
		for _, d := range good {
			if !comesTo(s, good, c, func(n int) bool { return n == d }) {
				return false
			}
		}
	}
	atEdge := func(n int) bool {
		x, y := n%s.Wide, n/s.Wide
		return x == 0 || y == 0 || x == s.Wide-1 || y == s.High-1
	}
	for _, c := range s.Spoiled {
		if !comesTo(s, s.Spoiled, c, atEdge) {
			return false
		}
	}
	return len(good) > 0
}

// blanksOf returns all blanks of a slab, in ascending order.
func blanksOf(s saw.Slab) [][2]int {
	var blanks [][2]int
	good := goodOf(s)
	for _, c := range good {
		for _, d := range good {
			if c < d && isNext(s, c, d) {
				blanks = append(blanks, [2]int{c, d})
			}
		}
	}
	return blanks
}

func meets(k, l [2]int) bool { return k[0] == l[0] || k[0] == l[1] || k[1] == l[0] || k[1] == l[1] }

func covers(blanks [][2]int, cell int) bool {
	return slices.ContainsFunc(blanks, func(k [2]int) bool { return k[0] == cell || k[1] == cell })
}

func compareBlanks(k, l [2]int) int {
	return cmp.Or(cmp.Compare(k[0], l[0]), cmp.Compare(k[1], l[1]))
}

func compareCuttings(k, l [][2]int) int { return slices.CompareFunc(k, l, compareBlanks) }

// cuttingsOf returns all cuttings, in ascending order.
func cuttingsOf(s saw.Slab) [][][2]int {
	all := cuttingsWith(nil, blanksOf(s))
	slices.SortFunc(all, compareCuttings)
	return all
}

// cuttingsWith returns all cuttings that have some blanks, and others only out of a list.
func cuttingsWith(have, others [][2]int) [][][2]int {
	all := [][][2]int{have}
	for i, k := range others {
		rest := slices.DeleteFunc(slices.Clone(others[i+1:]), func(l [2]int) bool { return meets(k, l) })
		all = append(all, cuttingsWith(append(slices.Clone(have), k), rest)...)
	}
	return all
}

// bestOf returns all best cuttings, in ascending order, and how many blanks they have.
func bestOf(s saw.Slab) (best [][][2]int, most int) {
	all := cuttingsOf(s)
	for _, k := range all {
		most = max(most, len(k))
	}
	return slices.DeleteFunc(all, func(k [][2]int) bool { return len(k) < most }), most
}

func idleOf(s saw.Slab) []int {
	best, _ := bestOf(s)
	isUsed := func(c int) bool {
		return !slices.ContainsFunc(best, func(k [][2]int) bool { return !covers(k, c) })
	}
	return slices.DeleteFunc(goodOf(s), isUsed)
}

func sureOf(s saw.Slab) [][2]int {
	best, _ := bestOf(s)
	return slices.DeleteFunc(blanksOf(s), func(l [2]int) bool {
		return slices.ContainsFunc(best, func(k [][2]int) bool { return !slices.Contains(k, l) })
	})
}

func isBar(s saw.Slab, cells []int) bool {
	return !slices.ContainsFunc(blanksOf(s), func(k [2]int) bool {
		return !slices.Contains(cells, k[0]) && !slices.Contains(cells, k[1])
	})
}

// barsOf returns all bars, the shortest ones first, and of these the first ones (R6).
func barsOf(s saw.Slab) [][]int {
	good := goodOf(s)
	var bars [][]int
	for mask := range 1 << len(good) {
		var cells []int
		for i, c := range good {
			if mask>>i&1 == 1 {
				cells = append(cells, c)
			}
		}
		if isBar(s, cells) {
			bars = append(bars, cells)
		}
	}
	slices.SortFunc(bars, func(k, l []int) int { return cmp.Or(cmp.Compare(len(k), len(l)), slices.Compare(k, l)) })
	return bars
}

// sawingsOf returns all sawings, in ascending order.
func sawingsOf(s saw.Slab) [][][2]int {
	good := len(goodOf(s))
	return slices.DeleteFunc(cuttingsOf(s), func(k [][2]int) bool { return 2*len(k) < good })
}

// goodAt returns the good cell at a place of a slab, or -1.
func goodAt(s saw.Slab, x, y int) int {
	if x < 0 || y < 0 || x >= s.Wide || y >= s.High || !isGood(s, y*s.Wide+x) {
		return -1
	}
	return y*s.Wide + x
}

// rises returns of each side of a good cell that does not lie between the cells
// of a blank the two corners and how much the height rises between them.
func rises(s saw.Slab, blanks [][2]int) [][3]int {
	var all [][3]int
	row := s.Wide + 1
	add := func(from, to, rise, c, d int) {
		if (c >= 0 || d >= 0) && !slices.Contains(blanks, [2]int{c, d}) {
			all = append(all, [3]int{from, to, rise})
		}
	}
	for y := range s.High + 1 {
		for x := range row {
			sign := 1
			if (x+y)%2 == 1 {
				sign = -1
			}
			add(y*row+x, y*row+x+1, sign, goodAt(s, x, y-1), goodAt(s, x, y))
			add(y*row+x, y*row+x+row, -sign, goodAt(s, x-1, y), goodAt(s, x, y))
		}
	}
	return all
}

// areHeights reports whether some numbers are the heights of a sawing.
func areHeights(s saw.Slab, blanks [][2]int, heights []int) bool {
	if len(heights) != (s.Wide+1)*(s.High+1) {
		return false
	}
	for _, r := range rises(s, blanks) {
		if heights[r[1]]-heights[r[0]] != r[2] {
			return false
		}
	}
	seen := false
	for p, h := range heights {
		x, y := p%(s.Wide+1), p/(s.Wide+1)
		near := max(goodAt(s, x-1, y-1), goodAt(s, x, y-1), goodAt(s, x-1, y), goodAt(s, x, y))
		if (near < 0 || !seen) && h != 0 {
			return false
		}
		seen = seen || near >= 0
	}
	return true
}

// cornerOf returns the corner around which two blanks lie, or -1.
func cornerOf(s saw.Slab, k, l [2]int) int {
	cells := list(k[0], k[1], l[0], l[1])
	slices.Sort(cells)
	a := cells[0]
	if a%s.Wide == s.Wide-1 || !slices.Equal(cells, list(a, a+1, a+s.Wide, a+s.Wide+1)) {
		return -1
	}
	return (a/s.Wide+1)*(s.Wide+1) + a%s.Wide + 1
}

// turnsOf returns the cutting that each turn leads to, by the corners of the turns.
func turnsOf(s saw.Slab, blanks [][2]int) map[int][][2]int {
	turns := map[int][][2]int{}
	for i, k := range blanks {
		for _, l := range blanks[i+1:] {
			corner := cornerOf(s, k, l)
			if corner < 0 {
				continue
			}
			turned := slices.DeleteFunc(slices.Clone(blanks), func(m [2]int) bool { return m == k || m == l })
			turned = append(turned, [2]int{k[0], l[0]}, [2]int{k[1], l[1]})
			slices.SortFunc(turned, compareBlanks)
			turns[corner] = turned
		}
	}
	return turns
}

// turnsTo returns how many turns lead from one cutting to another one at least, or -1.
func turnsTo(s saw.Slab, from, to [][2]int) int {
	seen, steps := [][][2]int{from}, list(0)
	for i := 0; i < len(seen); i++ {
		if slices.Equal(seen[i], to) {
			return steps[i]
		}
		for _, k := range turnsOf(s, seen[i]) {
			if !slices.ContainsFunc(seen, func(l [][2]int) bool { return slices.Equal(k, l) }) {
				seen, steps = append(seen, k), append(steps, steps[i]+1)
			}
		}
	}
	return -1
}

// mirrored returns a slab with rows and columns exchanged, mirroredCell a cell
// of it, and mirroredBlanks a cutting of it.
func mirrored(s saw.Slab) saw.Slab {
	m := slab(s.High, s.Wide)
	for _, c := range s.Spoiled {
		m.Spoiled = append(m.Spoiled, mirroredCell(s, c))
	}
	slices.Sort(m.Spoiled)
	return m
}

func mirroredCell(s saw.Slab, cell int) int { return cell%s.Wide*s.High + cell/s.Wide }

func mirroredBlanks(s saw.Slab, blanks [][2]int) [][2]int {
	var out [][2]int
	for _, k := range blanks {
		c, d := mirroredCell(s, k[0]), mirroredCell(s, k[1])
		out = append(out, [2]int{min(c, d), max(c, d)})
	}
	slices.SortFunc(out, compareBlanks)
	return out
}
