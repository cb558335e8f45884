package rub_test

import (
	"math/big"
	"slices"

	"novaculite/api"
)

// The functions of this file say again, in the plainest way, what the chapter
// defines; no one of them uses the package's functions.

// none is in place of a number of rubbings or steps where there is no way.
const none = -1

// checkOf says what is wrong with a row.
func checkOf(row []int) api.Errno {
	if len(row) == 0 {
		return api.ErrEmpty
	}
	if len(row) > 6 {
		return api.ErrMany
	}
	for i := range row {
		if row[i] < 0 || row[i] > 8 {
			return api.ErrRange
		}
		if i > 0 && row[i-1] < row[i] {
			return api.ErrOrder
		}
	}
	return api.OK
}

// checkTwoOf says what is wrong with two rows.
func checkTwoOf(a, b []int) api.Errno {
	for _, row := range lists(a, b) {
		if e := checkOf(row); e != api.OK {
			return e
		}
	}
	if len(a) != len(b) {
		return api.ErrShape
	}
	if riseOf(a, len(a)) != riseOf(b, len(b)) {
		return api.ErrSum
	}
	return api.OK
}

// checkRisesOf says what is wrong with rises.
func checkRisesOf(rises []int) api.Errno {
	if len(rises) < 2 {
		return api.ErrEmpty
	}
	if rises[0] != 0 {
		return api.ErrShape
	}
	if len(rises) > 7 {
		return api.ErrMany
	}
	for k := 1; k < len(rises); k++ {
		d := difference(rises[k], rises[k-1])
		if d.Sign() < 0 || d.Cmp(big.NewInt(8)) > 0 {
			return api.ErrRange
		}
		if k > 1 && d.Cmp(difference(rises[k-1], rises[k-2])) > 0 {
			return api.ErrOrder
		}
	}
	return api.OK
}

func difference(a, b int) *big.Int {
	return new(big.Int).Sub(big.NewInt(int64(a)), big.NewInt(int64(b)))
}

func riseOf(row []int, k int) int {
	rise := 0
	for _, thick := range row[:k] {
		rise += thick
	}
	return rise
}

func majorizesOf(a, b []int) bool {
	for k := range len(a) + 1 {
		if riseOf(a, k) < riseOf(b, k) {
			return false
		}
	}
	return true
}

func powerOf(row []int, power int) int {
	sum := 0
	for _, thick := range row {
		sum += list(1, thick, thick*thick, thick*thick*thick, thick*thick*thick*thick)[power]
	}
	return sum
}

func turnedOf(row []int) []int {
	var turned []int
	for thick := 0; thick < row[0]; thick++ {
		thicker := slices.DeleteFunc(slices.Clone(row), func(t int) bool { return t <= thick })
		turned = append(turned, len(thicker))
	}
	return turned
}

// rubOf returns the row after a rubbing; nothing, if there is none of these places.
func rubOf(row []int, i, j int) []int {
	if i >= j || row[i]-row[j] < 2 {
		return nil
	}
	rubbed := slices.Clone(row)
	rubbed[i]--
	rubbed[j]++
	return descending(rubbed)
}

// rowsOf returns, by their sums, all rows of a number of stones, in descending order.
func rowsOf(number int) map[int][][]int {
	lists := [][]int{nil}
	for range number {
		var longer [][]int
		for _, l := range lists {
			for thick := range 9 {
				longer = append(longer, append(slices.Clone(l), thick))
			}
		}
		lists = longer
	}
	slices.Reverse(lists)
	rows := map[int][][]int{}
	for _, l := range lists {
		if slices.IsSortedFunc(l, func(a, b int) int { return b - a }) {
			sum := riseOf(l, number)
			rows[sum] = append(rows[sum], l)
		}
	}
	return rows
}

// family is all rows of a number of stones and a sum, in descending order, and what
// leads from one to another one, by their places in the family.
type family struct {
	number, sum int
	rows        [][]int
	away        [][]int // the smallest number of rubbings, or none
	steps       [][]int // where a step leads
	longest     [][]int // the greatest number of steps, or none
}

func familiesOf(number int) []family {
	var families []family
	rows := rowsOf(number)
	for sum := range number*8 + 1 {
		families = append(families, familyOf(number, sum, rows[sum]))
	}
	return families
}

func familyOf(number, sum int, rows [][]int) family {
	f := family{number: number, sum: sum, rows: rows}
	rubbed := make([][]int, len(rows))
	for a, row := range rows {
		for i := range row {
			for j := range row {
				if r := rubOf(row, i, j); r != nil {
					rubbed[a] = append(rubbed[a], f.at(r))
				}
			}
		}
	}
	for a := range rows {
		f.away = append(f.away, distances(rubbed, a))
		f.steps = append(f.steps, f.stepsOf(a, rubbed[a]))
	}
	for a := range rows {
		f.longest = append(f.longest, f.longestFrom(a))
	}
	return f
}

func (f family) at(row []int) int {
	return slices.IndexFunc(f.rows, func(r []int) bool { return slices.Equal(r, row) })
}

// distances returns how many rubbings lead from one row to each one, or none.
func distances(rubbed [][]int, from int) []int {
	away := slices.Repeat(list(none), len(rubbed))
	away[from] = 0
	queue := list(from)
	for len(queue) > 0 {
		at := queue[0]
		queue = queue[1:]
		for _, next := range rubbed[at] {
			if away[next] == none {
				away[next] = away[at] + 1
				queue = append(queue, next)
			}
		}
	}
	return away
}

// stepsOf returns those of the rubbed rows of a row to which a step leads, in
// descending order.
func (f family) stepsOf(a int, rubbed []int) []int {
	var steps []int
	for _, b := range rubbed {
		between := func(row []int) bool {
			other := !slices.Equal(row, f.rows[a]) && !slices.Equal(row, f.rows[b])
			return other && majorizesOf(f.rows[a], row) && majorizesOf(row, f.rows[b])
		}
		if !slices.Contains(steps, b) && !slices.ContainsFunc(f.rows, between) {
			steps = append(steps, b)
		}
	}
	slices.Sort(steps)
	return steps
}

// longestFrom returns the greatest number of steps from a row to each one. As each
// step leads to a smaller row, all ways to a row are known when it is reached.
func (f family) longestFrom(a int) []int {
	longest := slices.Repeat(list(none), len(f.rows))
	longest[a] = 0
	for b := a; b < len(f.rows); b++ {
		if longest[b] == none {
			continue
		}
		for _, next := range f.steps[b] {
			longest[next] = max(longest[next], longest[b]+1)
		}
	}
	return longest
}

func (f family) can(a, b int) bool { return f.away[a][b] != none }

// first returns the first places of a to rub on the way to b.
func (f family) first(a, b int) (i, j int) {
	for i := range f.number {
		for j := range f.number {
			if r := rubOf(f.rows[a], i, j); r != nil && f.away[f.at(r)][b] == f.away[a][b]-1 {
				return i, j
			}
		}
	}
	return none, none
}

// why returns the smallest place at which a rise of a is smaller than that of b.
func (f family) why(a, b int) int {
	k := 0
	for riseOf(f.rows[a], k) >= riseOf(f.rows[b], k) {
		k++
	}
	return k
}

// below returns all rows that a row can become.
func (f family) below(a int) [][]int {
	return f.those(func(b int) bool { return f.can(a, b) })
}

func (f family) those(fits func(b int) bool) [][]int {
	var rows [][]int
	for b, row := range f.rows {
		if fits(b) {
			rows = append(rows, row)
		}
	}
	return rows
}

// meets returns all rows that a and b can become and that can become each such row.
func (f family) meets(a, b int) [][]int {
	both := func(c int) bool { return f.can(a, c) && f.can(b, c) }
	return f.those(func(m int) bool {
		return both(m) && f.all(func(c int) bool { return !both(c) || f.can(m, c) })
	})
}

// joins returns all rows that can become a and b and that each such row can become.
func (f family) joins(a, b int) [][]int {
	both := func(c int) bool { return f.can(c, a) && f.can(c, b) }
	return f.those(func(j int) bool {
		return both(j) && f.all(func(c int) bool { return !both(c) || f.can(c, j) })
	})
}

func (f family) all(holds func(b int) bool) bool {
	for b := range f.rows {
		if !holds(b) {
			return false
		}
	}
	return true
}
