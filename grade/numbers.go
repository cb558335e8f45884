package grade

import "novaculite/api"

// Intervals returns the intervals of an order.
func Intervals(o Order) ([][2]int, api.Errno) {
	x, e := read(o)
	if e != api.OK {
		return nil, e
	}
	intervals, found := x.intervals()
	if !found {
		return nil, api.ErrLost
	}
	return intervals, api.OK
}

// Spans checks intervals.
func Spans(o Order, intervals [][2]int) api.Errno {
	x, e := read(o)
	if e != api.OK {
		return e
	}
	if len(intervals) != x.stones {
		return api.ErrShape
	}
	for _, ends := range intervals {
		if !areNumbers(ends[:]) {
			return api.ErrRange
		}
		if ends[0] > ends[1] {
			return api.ErrOrder
		}
	}
	if ofIntervals(intervals).judgements != x.judgements {
		return api.ErrProof
	}
	return api.OK
}

// Step returns the smallest step with which an order has numbers.
func Step(o Order) (int, api.Errno) {
	x, e := read(o)
	if e != api.OK {
		return 0, e
	}
	for step := 1; step <= MaxStep; step++ {
		if _, found := x.numbers(step); found {
			return step, api.OK
		}
	}
	// an order that has numbers with any step has numbers with a step up to 3 (P6.11)
	return 0, api.ErrLost
}

// Numbers returns the smallest numbers with a step.
func Numbers(o Order, step int) ([]int, api.Errno) {
	x, e := read(o)
	if e != api.OK {
		return nil, e
	}
	if !isStep(step) {
		return nil, api.ErrRange
	}
	numbers, found := x.numbers(step)
	if !found {
		return nil, api.ErrLost
	}
	return numbers, api.OK
}

// Measures checks numbers.
func Measures(o Order, step int, numbers []int) api.Errno {
	x, e := read(o)
	if e != api.OK {
		return e
	}
	if !isStep(step) {
		return api.ErrRange
	}
	if len(numbers) != x.stones {
		return api.ErrShape
	}
	if !areNumbers(numbers) {
		return api.ErrRange
	}
	if ofNumbers(step, numbers).judgements != x.judgements {
		return api.ErrProof
	}
	return api.OK
}

// ofNumbers returns the order that has some numbers with a step.
func ofNumbers(step int, numbers []int) order {
	return related(len(numbers), func(a, b int) bool { return numbers[a]-numbers[b] >= step })
}

// ofIntervals returns the order that has some intervals.
func ofIntervals(intervals [][2]int) order {
	return related(len(intervals), func(a, b int) bool { return intervals[a][0] > intervals[b][1] })
}

// numbers returns the smallest numbers of an order with a step, if it has any.
func (o order) numbers(step int) (numbers []int, found bool) {
	var bounds []bound
	for a := range o.stones {
		for b := range o.stones {
			if o.sharper(a, b) {
				bounds = append(bounds, bound{a, b, step})
			} else {
				bounds = append(bounds, bound{b, a, 1 - step})
			}
		}
	}
	return least(o.stones, bounds)
}

// intervals returns the intervals of an order with the smallest ends, if it has
// any. Up to their greatest end there are only as many numbers as different sets
// of stones than which a stone is sharper, so that no others have one so small:
// each set fixes a lower end, and these fix the upper ends.
func (o order) intervals() (intervals [][2]int, found bool) {
	var bounds []bound
	for a := range o.stones {
		for b := range o.stones {
			lower, upper := a, o.stones+b
			if o.sharper(a, b) {
				bounds = append(bounds, bound{lower, upper, 1})
			} else { // a and b may be the same
				bounds = append(bounds, bound{upper, lower, 0})
			}
		}
	}
	ends, found := least(2*o.stones, bounds)
	if !found {
		return nil, false
	}
	for stone := range o.stones {
		intervals = append(intervals, [2]int{ends[stone], ends[o.stones+stone]})
	}
	return intervals, true
}

// bound says that a value is not below another one and a gap, by their indices.
type bound struct{ value, other, gap int }

// least returns the smallest values, none of them below 0, within all bounds,
// if there are any.
func least(number int, bounds []bound) (values []int, found bool) {
	values = make([]int, number)
	// unless the values rise for ever, one of so many rounds raises none of them
	for range number {
		if !raise(values, bounds) {
			return values, true
		}
	}
	return nil, false
}

// raise raises values that are below their bounds, and reports whether any was.
func raise(values []int, bounds []bound) bool {
	raised := false
	for _, b := range bounds {
		low := values[b.other] + b.gap
		if values[b.value] < low {
			values[b.value] = low
			raised = true
		}
	}
	return raised
}
