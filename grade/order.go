package grade

import "novaculite/api"

// maxPairs is how many pairs of different stones there are.
const maxPairs = MaxStones * (MaxStones - 1) / 2

// set is a set of stones, or of claims: the bits of their numbers.
type set uint16

func (s set) has(number int) bool { return s>>number&1 == 1 }

// list returns the numbers of a set in ascending order.
func (s set) list() []int {
	var numbers []int
	for number := 0; s>>number != 0; number++ {
		if s.has(number) {
			numbers = append(numbers, number)
		}
	}
	return numbers
}

// judgements is a table of which stones are sharper than which: for each one
// the set of all than which it is sharper.
type judgements struct {
	below [MaxStones]set
}

// fourTest is a test of four stones.
type fourTest func(j judgements, a, b, c, d int) bool

func (j judgements) sharper(a, b int) bool { return j.below[a].has(b) }

func (j judgements) like(a, b int) bool { return a != b && !j.sharper(a, b) && !j.sharper(b, a) }

func (j judgements) twoAndTwo(a, b, c, d int) bool {
	return j.sharper(a, b) && j.sharper(c, d) && !j.sharper(a, d) && !j.sharper(c, b)
}

func (j judgements) threeAndOne(a, b, c, d int) bool {
	return j.sharper(a, b) && j.sharper(b, c) && !j.sharper(a, d) && !j.sharper(d, c)
}

// bears reports whether a claim is true.
func (j judgements) bears(c Claim) bool {
	if c.Sharper {
		return j.sharper(c.A, c.B)
	}
	return j.like(c.A, c.B)
}

// order is an order with a table of its pairs.
type order struct {
	judgements
	stones int
}

// read returns an order with its table, or what is wrong with it.
func read(o Order) (order, api.Errno) {
	if !isFrom(o.Stones, 1, MaxStones) {
		return order{}, api.ErrRange
	}
	if len(o.Sharper) > maxPairs {
		return order{}, api.ErrMany
	}
	x := order{stones: o.Stones}
	for _, pair := range o.Sharper {
		a, b := pair[0], pair[1]
		if e := checkTwo(a, b, o.Stones); e != api.OK {
			return order{}, e
		}
		if !x.like(a, b) {
			return order{}, api.ErrTwice
		}
		x = x.with(a, b)
	}
	return x, api.OK
}

// checkTwo returns the error of two stones that shall be different.
func checkTwo(a, b, stones int) api.Errno {
	if !isStone(a, stones) || !isStone(b, stones) {
		return api.ErrNone
	}
	if a == b {
		return api.ErrClash
	}
	return api.OK
}

// related returns the order in which just those stones are sharper than others
// of which a relation says so.
func related(stones int, sharper func(a, b int) bool) order {
	x := order{stones: stones}
	for a := range stones {
		for b := range stones {
			if sharper(a, b) {
				x = x.with(a, b)
			}
		}
	}
	return x
}

// with returns the order with one more pair.
func (o order) with(a, b int) order {
	o.below[a] |= 1 << b
	return o
}

// pairs returns the pairs of an order in ascending order.
func (o order) pairs() [][2]int {
	var pairs [][2]int
	for a := range o.stones {
		for _, b := range o.below[a].list() {
			pairs = append(pairs, [2]int{a, b})
		}
	}
	return pairs
}

func (o order) kind() int {
	if _, found := o.firstFour(judgements.twoAndTwo); found {
		return 0
	}
	if _, found := o.firstFour(judgements.threeAndOne); found {
		return 1
	}
	if !o.isLikeTransitive() {
		return 2
	}
	return 3
}

// firstFour returns the first four stones of which something is true.
func (o order) firstFour(is fourTest) (four []int, found bool) {
	for a := range o.stones {
		for b := range o.stones {
			for c := range o.stones {
				for d := range o.stones {
					if is(o.judgements, a, b, c, d) {
						return []int{a, b, c, d}, true
					}
				}
			}
		}
	}
	return nil, false
}

// isLikeTransitive reports whether stones that are like the same stone are
// like each other.
func (o order) isLikeTransitive() bool {
	for a := range o.stones {
		for b := range o.stones {
			for c := range o.stones {
				if o.like(a, b) && o.like(b, c) && o.sharper(a, c) {
					return false
				}
			}
		}
	}
	return true
}

// hasNumbers reports whether an order has numbers: no four stones are two and
// two, or three and one. It compares sets of stones, since it is asked of many
// orders.
func (o order) hasNumbers() bool {
	for a := range o.stones {
		for b := range a {
			if !o.isWithin(a, b) && !o.isWithin(b, a) {
				return false
			}
		}
	}
	for a := range o.stones {
		for b := range o.stones {
			for d := range o.stones {
				if o.sharper(a, b) && !o.sharper(a, d) && !o.isWithin(b, d) {
					return false
				}
			}
		}
	}
	return true
}

// isWithin reports whether a stone is sharper than all than which another one is.
func (j judgements) isWithin(b, a int) bool { return j.below[b]&^j.below[a] == 0 }

// ranks returns how many stones are before each one.
func (o order) ranks() []int {
	ranks := make([]int, o.stones)
	for x := range o.stones {
		for y := range o.stones {
			if o.isBefore(y, x) {
				ranks[x]++
			}
		}
	}
	return ranks
}

func (o order) isBefore(y, x int) bool {
	for z := range o.stones {
		if o.sharper(y, z) && !o.sharper(x, z) || o.sharper(z, x) && !o.sharper(z, y) {
			return true
		}
	}
	return false
}
