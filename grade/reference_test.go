package grade_test

import (
	"slices"
	"sync"

	"novaculite/api"
	"novaculite/grade"
)

// The functions of this file say again, in the plainest way, what the chapter
// defines; no one of them uses the package's functions.

// table is which stones are sharper than which.
type table [grade.MaxStones][grade.MaxStones]bool

// judged is an order with its table.
type judged struct {
	stones int
	over   table
}

// order returns the order with its pairs in ascending order.
func (j judged) order() grade.Order {
	var sharper [][2]int
	for a := range j.stones {
		for b := range j.stones {
			if j.over[a][b] {
				sharper = append(sharper, [2]int{a, b})
			}
		}
	}
	return grade.Order{Stones: j.stones, Sharper: sharper}
}

// told returns the order with its pairs in descending order.
func (j judged) told() grade.Order {
	o := j.order()
	slices.Reverse(o.Sharper)
	return o
}

// renumbered returns the order after each stone got another number.
func (j judged) renumbered(numbers []int) judged {
	k := judged{stones: j.stones}
	for a := range j.stones {
		for b := range j.stones {
			k.over[numbers[a]][numbers[b]] = j.over[a][b]
		}
	}
	return k
}

func (j judged) isLike(a, b int) bool { return a != b && !j.over[a][b] && !j.over[b][a] }

func (j judged) isTwoAndTwo(f []int) bool {
	a, b, c, d := f[0], f[1], f[2], f[3]
	return j.over[a][b] && j.over[c][d] && !(j.over[a][d] || j.over[c][b])
}

func (j judged) isThreeAndOne(f []int) bool {
	a, b, c, d := f[0], f[1], f[2], f[3]
	return j.over[a][b] && j.over[b][c] && !(j.over[a][d] || j.over[d][c])
}

// first returns the first list of so many stones that passes a test, or nil.
func (j judged) first(number int, passes func(l []int) bool) []int {
	for _, l := range stoneLists()[j.stones][number] {
		if passes(l) {
			return l
		}
	}
	return nil
}

func (j judged) kind() int {
	if j.first(4, j.isTwoAndTwo) != nil {
		return 0
	}
	if j.first(4, j.isThreeAndOne) != nil {
		return 1
	}
	if j.first(3, func(l []int) bool {
		return j.isLike(l[0], l[1]) && j.isLike(l[1], l[2]) && l[0] != l[2] && !j.isLike(l[0], l[2])
	}) != nil {
		return 2
	}
	return 3
}

// isBefore says whether a stone y is before a stone x.
func (j judged) isBefore(y, x int) bool {
	for z := range j.stones {
		if j.over[y][z] && !j.over[x][z] {
			return true
		}
		if j.over[z][x] && !j.over[z][y] {
			return true
		}
	}
	return false
}

func (j judged) ranks() []int {
	ranks := make([]int, j.stones)
	for x := range ranks {
		for y := range ranks {
			if j.isBefore(y, x) {
				ranks[x]++
			}
		}
	}
	return ranks
}

// bears says whether all claims are true.
func (j judged) bears(claims []grade.Claim) bool {
	for _, c := range claims {
		if c.Sharper && !j.over[c.A][c.B] || !c.Sharper && !j.isLike(c.A, c.B) {
			return false
		}
	}
	return true
}

// upTo returns the numbers from 0 on that are below a limit.
func upTo(limit int) []int {
	var l []int
	for i := range limit {
		l = append(l, i)
	}
	return l
}

// anyLists returns all lists of so many of some numbers, in their order.
func anyLists(number int, of []int) [][]int {
	all := [][]int{nil}
	for range number {
		var longer [][]int
		for _, l := range all {
			for _, n := range of {
				longer = append(longer, append(slices.Clone(l), n))
			}
		}
		all = longer
	}
	return all
}

// stoneLists returns all lists of up to four stones, by their numbers of stones
// and the lengths.
var stoneLists = sync.OnceValue(func() [][][][]int {
	all := make([][][][]int, grade.MaxStones+1)
	for stones := range all {
		for number := range 5 {
			all[stones] = append(all[stones], anyLists(number, upTo(stones)))
		}
	}
	return all
})

// ascending returns all ascending lists of so many numbers below a limit, in
// their order.
func ascending(number, limit int) [][]int {
	all := [][]int{nil}
	for range number {
		var longer [][]int
		for _, l := range all {
			for _, n := range upTo(limit) {
				if len(l) == 0 || n > l[len(l)-1] {
					longer = append(longer, append(slices.Clone(l), n))
				}
			}
		}
		all = longer
	}
	return all
}

// permutations returns all lists that have each number below a limit once.
func permutations(limit int) [][]int {
	return slices.DeleteFunc(anyLists(limit, upTo(limit)), func(l []int) bool {
		return len(slices.Compact(slices.Sorted(slices.Values(l)))) < limit
	})
}

// allJudged returns all orders, by their numbers of stones.
var allJudged = sync.OnceValue(func() [][]judged {
	all := make([][]judged, grade.MaxStones+1)
	for stones := 1; stones <= grade.MaxStones; stones++ {
		orders := []judged{{stones: stones}}
		for _, pair := range ascending(2, stones) {
			for _, j := range orders {
				there, back := j, j
				there.over[pair[0]][pair[1]] = true
				back.over[pair[1]][pair[0]] = true
				orders = append(orders, there, back)
			}
		}
		all[stones] = orders
	}
	return all
})

func tableOfNumbers(step int, numbers []int) table {
	var over table
	for a := range numbers {
		for b := range numbers {
			over[a][b] = numbers[a] >= numbers[b]+step
		}
	}
	return over
}

func tableOfIntervals(intervals [][2]int) table {
	var over table
	for a := range intervals {
		for b := range intervals {
			over[a][b] = intervals[a][0] > intervals[b][1]
		}
	}
	return over
}

// smallestNumbers returns, for each table of so many stones that has numbers
// with a step, the smallest number of each stone. Of numbers in a row no two
// differ by more than the step: otherwise all those behind could be smaller.
func smallestNumbers(stones, step int) map[table][]int {
	found := map[table][]int{}
	turns := permutations(stones)
	for _, gaps := range anyLists(stones-1, upTo(step+1)) {
		row := make([]int, stones)
		for i, gap := range gaps {
			row[i+1] = row[i] + gap
		}
		for _, turn := range turns {
			numbers := make([]int, stones)
			for i, stone := range turn {
				numbers[stone] = row[i]
			}
			over := tableOfNumbers(step, numbers)
			if least, ok := found[over]; ok {
				numbers = each(least, numbers, func(a, b int) int { return min(a, b) })
			}
			found[over] = numbers
		}
	}
	return found
}

// each joins the elements of two lists, one by one.
func each(a, b []int, join func(a, b int) int) []int {
	var l []int
	for i := range a {
		l = append(l, join(a[i], b[i]))
	}
	return l
}

// allNumbers returns smallestNumbers by the numbers of stones and the steps.
var allNumbers = sync.OnceValue(func() [][]map[table][]int {
	all := make([][]map[table][]int, grade.MaxStones+1)
	for stones := 1; stones <= grade.MaxStones; stones++ {
		all[stones] = make([]map[table][]int, grade.MaxStep+1)
		for step := 1; step <= grade.MaxStep; step++ {
			all[stones][step] = smallestNumbers(stones, step)
		}
	}
	return all
})

// numbered returns all orders with numbers, by their numbers of stones.
var numbered = sync.OnceValue(func() [][]judged {
	all := make([][]judged, grade.MaxStones+1)
	for stones := 1; stones <= grade.MaxStones; stones++ {
		for _, j := range allJudged()[stones] {
			if hasNumbers(j) {
				all[stones] = append(all[stones], j)
			}
		}
	}
	return all
})

func hasNumbers(j judged) bool { return stepOf(j) > 0 }

// stepOf returns the smallest step with which an order has numbers, or 0.
func stepOf(j judged) int {
	for step := 1; step <= grade.MaxStep; step++ {
		if _, ok := allNumbers()[j.stones][step][j.over]; ok {
			return step
		}
	}
	return 0
}

// ends is the smallest greatest end of intervals of an order, the smallest
// lower ends and the greatest upper ends of such intervals.
type ends struct {
	top           int
	lowers, rises []int
}

// allEnds returns the ends of all tables that have intervals, by the numbers of
// stones. Intervals of n stones need no ends above n-1: their lower ends take n
// different numbers at the most.
var allEnds = sync.OnceValue(func() []map[table]ends {
	all := make([]map[table]ends, grade.MaxStones+1)
	for stones := 1; stones <= grade.MaxStones; stones++ {
		all[stones] = endsOf(stones)
	}
	return all
})

func endsOf(stones int) map[table]ends {
	found := map[table]ends{}
	single := ascendingPairs(stones)
	for _, chosen := range anyLists(stones, upTo(len(single))) {
		var intervals [][2]int
		x := ends{}
		for _, i := range chosen {
			intervals = append(intervals, single[i])
			x.lowers = append(x.lowers, single[i][0])
			x.rises = append(x.rises, single[i][1])
		}
		x.top = slices.Max(x.rises)
		over := tableOfIntervals(intervals)
		if y, ok := found[over]; !ok || x.top < y.top {
			found[over] = x
		} else if x.top == y.top {
			lowers := each(x.lowers, y.lowers, func(a, b int) int { return min(a, b) })
			rises := each(x.rises, y.rises, func(a, b int) int { return max(a, b) })
			found[over] = ends{x.top, lowers, rises}
		}
	}
	return found
}

// ascendingPairs returns all intervals with ends below a limit.
func ascendingPairs(limit int) [][2]int {
	var all [][2]int
	for lower := range limit {
		for upper := lower; upper < limit; upper++ {
			all = append(all, [2]int{lower, upper})
		}
	}
	return all
}

// checkOf says what is wrong with an order.
func checkOf(o grade.Order) api.Errno {
	if o.Stones < 1 || o.Stones > 5 {
		return api.ErrRange
	}
	if len(o.Sharper) > 10 {
		return api.ErrMany
	}
	for i, pair := range o.Sharper {
		if e := checkStones(o.Stones, pair[0], pair[1]); e != api.OK {
			return e
		}
		for _, earlier := range o.Sharper[:i] {
			if earlier == pair || earlier == [2]int{pair[1], pair[0]} {
				return api.ErrTwice
			}
		}
	}
	return api.OK
}

// toldOf says what is wrong with claims.
func toldOf(stones int, claims []grade.Claim) api.Errno {
	if stones < 1 || stones > 5 {
		return api.ErrRange
	}
	if len(claims) > 8 {
		return api.ErrMany
	}
	for _, c := range claims {
		if e := checkStones(stones, c.A, c.B); e != api.OK {
			return e
		}
	}
	return api.OK
}

func checkStones(stones, a, b int) api.Errno {
	if a < 0 || a >= stones || b < 0 || b >= stones {
		return api.ErrNone
	}
	if a == b {
		return api.ErrClash
	}
	return api.OK
}

// agreeingOf returns all orders that agree with claims.
func agreeingOf(stones int, claims []grade.Claim) []judged {
	var all []judged
	for _, j := range numbered()[stones] {
		if j.bears(claims) {
			all = append(all, j)
		}
	}
	return all
}

// sureOf says what is sure about two different stones.
func sureOf(stones int, claims []grade.Claim, a, b int) (int, api.Errno) {
	seen := map[int]bool{}
	for _, j := range agreeingOf(stones, claims) {
		switch {
		case j.over[a][b]:
			seen[1] = true
		case j.over[b][a]:
			seen[-1] = true
		default:
			seen[0] = true
		}
	}
	if len(seen) == 0 {
		return 0, api.ErrLost
	}
	for sure := range seen {
		if len(seen) == 1 {
			return sure, api.OK
		}
	}
	return 0, api.ErrOpen
}

// clashing returns all of the shortest lists of claims with which no order
// agrees, in their order; none if some order agrees with all claims.
func clashing(stones int, claims []grade.Claim) [][]int {
	for number := range len(claims) + 1 {
		lists := slices.DeleteFunc(ascending(number, len(claims)), func(l []int) bool {
			return agreesWith(stones, chosen(claims, l))
		})
		if len(lists) > 0 {
			return lists
		}
	}
	return nil
}

// wrongOf returns the first of the shortest lists of claims without which some
// order agrees with all others.
func wrongOf(stones int, claims []grade.Claim) []int {
	for number := range len(claims) + 1 {
		for _, l := range ascending(number, len(claims)) {
			others := slices.DeleteFunc(upTo(len(claims)), func(i int) bool { return slices.Contains(l, i) })
			if agreesWith(stones, chosen(claims, others)) {
				return l
			}
		}
	}
	panic("no claims at all, and no order")
}

func agreesWith(stones int, claims []grade.Claim) bool {
	return slices.ContainsFunc(numbered()[stones], func(j judged) bool { return j.bears(claims) })
}

func chosen(claims []grade.Claim, indices []int) []grade.Claim {
	var l []grade.Claim
	for _, i := range indices {
		l = append(l, claims[i])
	}
	return l
}
