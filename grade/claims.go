package grade

import (
	"cmp"
	"slices"

	"novaculite/api"
)

// Told checks claims.
func Told(stones int, claims []Claim) api.Errno {
	if !isFrom(stones, 1, MaxStones) {
		return api.ErrRange
	}
	if len(claims) > MaxClaims {
		return api.ErrMany
	}
	for _, c := range claims {
		if e := checkTwo(c.A, c.B, stones); e != api.OK {
			return e
		}
	}
	return api.OK
}

// Agrees reports whether an order agrees with claims.
func Agrees(o Order, claims []Claim) (bool, api.Errno) {
	x, e := read(o)
	if e != api.OK {
		return false, e
	}
	if e := Told(x.stones, claims); e != api.OK {
		return false, e
	}
	return x.hasNumbers() && x.agrees(claims), api.OK
}

// Sure returns what is sure about two stones.
func Sure(stones int, claims []Claim, a, b int) (int, api.Errno) {
	if e := Told(stones, claims); e != api.OK {
		return 0, e
	}
	if !isStone(a, stones) || !isStone(b, stones) {
		return 0, api.ErrNone
	}
	if a == b {
		return 0, api.ErrTwice
	}
	orders := agreeing(stones, claims)
	if len(orders) == 0 {
		return 0, api.ErrLost
	}
	sure := orders[0].compare(a, b)
	for _, o := range orders {
		if o.compare(a, b) != sure {
			return 0, api.ErrOpen
		}
	}
	return sure, api.OK
}

// Orders returns how many orders agree with claims.
func Orders(stones int, claims []Claim) (int, api.Errno) {
	if e := Told(stones, claims); e != api.OK {
		return 0, e
	}
	return len(agreeing(stones, claims)), api.OK
}

// Why returns the fewest claims with which no order agrees.
func Why(stones int, claims []Claim) ([]int, api.Errno) {
	if e := Told(stones, claims); e != api.OK {
		return nil, e
	}
	possible := truths(stones, claims)
	var clashing [][]int
	for claimed := range set(1) << len(claims) {
		allows := func(truth set) bool { return claimed&^truth == 0 }
		if !slices.ContainsFunc(possible, allows) {
			clashing = append(clashing, claimed.list())
		}
	}
	if len(clashing) == 0 {
		return nil, api.ErrClash
	}
	return shortest(clashing), api.OK
}

// Wrong returns the fewest claims that must be wrong.
func Wrong(stones int, claims []Claim) ([]int, api.Errno) {
	if e := Told(stones, claims); e != api.OK {
		return nil, e
	}
	all := set(1)<<len(claims) - 1
	var wrong [][]int
	for _, truth := range truths(stones, claims) {
		wrong = append(wrong, (all &^ truth).list())
	}
	return shortest(wrong), api.OK
}

// Shapes returns how many orders there are without numbers of stones.
func Shapes(stones int) (int, api.Errno) {
	if !isFrom(stones, 1, MaxStones) {
		return 0, api.ErrRange
	}
	count := 0
	for _, o := range agreeing(stones, nil) {
		// stones with the same rank are sharper than the same stones, and less sharp
		// than the same, so that each order is the same as just one whose ranks ascend
		if slices.IsSorted(o.ranks()) {
			count++
		}
	}
	return count, api.OK
}

// agreeing returns all orders of so many stones that agree with claims. Such an
// order without its last stone agrees with the claims about the other stones,
// so that each one is found by adding stones.
func agreeing(stones int, claims []Claim) []order {
	fails := func(o order) bool { return !o.agrees(claims) || !o.hasNumbers() }
	orders := []order{{}}
	for range stones {
		var longer []order
		for _, o := range orders {
			longer = append(longer, slices.DeleteFunc(o.longer(), fails)...)
		}
		orders = longer
	}
	return orders
}

// longer returns all orders that have one stone more.
func (o order) longer() []order {
	stone := o.stones
	o.stones++
	all := []order{o}
	for other := range stone {
		for _, x := range all {
			all = append(all, x.with(stone, other), x.with(other, stone))
		}
	}
	return all
}

// agrees reports whether all claims about stones of an order are true.
func (o order) agrees(claims []Claim) bool {
	for _, c := range claims {
		if max(c.A, c.B) < o.stones && !o.bears(c) {
			return false
		}
	}
	return true
}

// compare returns 1 if a stone is sharper than another one, -1 if that one is
// sharper, and 0 if they are like each other.
func (o order) compare(a, b int) int {
	if o.sharper(a, b) {
		return 1
	}
	if o.sharper(b, a) {
		return -1
	}
	return 0
}

// truths returns which claims are true, for each order of so many stones that
// has numbers.
func truths(stones int, claims []Claim) []set {
	var all []set
	for _, o := range agreeing(stones, nil) {
		var truth set
		for i, c := range claims {
			if o.bears(c) {
				truth |= 1 << i
			}
		}
		all = append(all, truth)
	}
	slices.Sort(all)
	return slices.Compact(all)
}

// shortest returns the first of the shortest lists.
func shortest(lists [][]int) []int {
	return slices.MinFunc(lists, func(a, b []int) int {
		return cmp.Or(cmp.Compare(len(a), len(b)), slices.Compare(a, b))
	})
}
