package mule

import "novaculite/api"

// Late returns the first load that may be late.
func Late(c Caravan, order []int, snow int) (int, api.Errno) {
	if e := Valid(c, order); e != api.OK {
		return 0, e
	}
	if !isDay(snow) {
		return 0, api.ErrRange
	}
	saved := savedBy(c, order, snow)
	if saved == len(order) {
		return 0, api.ErrClash
	}
	return order[saved], api.OK
}

// Saved returns how many loads are surely there before the snow.
func Saved(c Caravan, snow int) (int, api.Errno) {
	if e := Check(c); e != api.OK {
		return 0, e
	}
	if !isDay(snow) {
		return 0, api.ErrRange
	}
	most := 0
	for _, order := range orders(c) {
		most = max(most, savedBy(c, order, snow))
	}
	return most, api.OK
}

// Latest returns how late loads may arrive.
func Latest(c Caravan, cost int) ([]int, api.Errno) {
	if e := Check(c); e != api.OK {
		return nil, e
	}
	if cost < 0 {
		return nil, api.ErrRange
	}
	var days []int
	for _, l := range c.Loads {
		days = append(days, l.latest(cost))
	}
	return days, api.OK
}

func isDay(number int) bool { return number >= 0 && number <= MaxDay }

// savedBy returns how many loads, the first ones of an order, arrive on day snow or
// before in each truth, which is so just if they do in the worst one.
func savedBy(c Caravan, order []int, snow int) int {
	arrive := arrivals(order, worst(c))
	saved := 0
	for _, load := range order {
		if arrive[load] <= snow {
			saved++
		}
	}
	return saved
}

// latest returns the greatest day on which a load costs at most some cost, or -1.
func (l Load) latest(cost int) int {
	day := MaxDay
	for day >= 0 && l.cost(day) > cost {
		day--
	}
	return day
}
