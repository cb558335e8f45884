package trial

// left is what is left to a plan, or to a part of one: levels and blades.
type left struct{ levels, blades int }

// withBlades returns levels with as many blades as any plan for them can need.
func withBlades(levels int) left { return left{levels, levels} }

// blunt returns what is left after a blunt result.
func (s left) blunt(level int) left { return left{level - 1, s.blades - 1} }

// sharp returns what is left after a sharp result.
func (s left) sharp(level int) left { return left{s.levels - level, s.blades} }

// never is what a plan costs that does not exist. It is more than a trial and a
// blade for each level, at the greatest prices; sums of trials are far less.
const never = 2*MaxLevels*MaxPrice + 1

// leastCost returns a search for the least cost of a plan. What a plan costs is
// told by join from what its two parts cost.
func leastCost(join func(s left, blunt, sharp int) int) func(s left) int {
	found := map[left]int{}
	var search func(s left) int
	search = func(s left) int {
		if s.levels == 0 {
			return 0
		}
		if s.blades == 0 {
			return never
		}
		if cost, ok := found[s]; ok {
			return cost
		}
		least := never
		for level := 1; level <= s.levels; level++ {
			cost := join(s, search(s.blunt(level)), search(s.sharp(level)))
			least = min(least, cost)
		}
		found[s] = least
		return least
	}
	return search
}

// counting returns a search for the number of plans that are within what is left
// and so many trials.
func counting() func(s left, trials int) int {
	found := map[[3]int]int{}
	var search func(s left, trials int) int
	search = func(s left, trials int) int {
		if s.levels == 0 {
			return 1
		}
		if s.blades == 0 || trials == 0 {
			return 0
		}
		key := [3]int{s.levels, s.blades, trials}
		if number, ok := found[key]; ok {
			return number
		}
		number := 0
		for level := 1; level <= s.levels; level++ {
			number += search(s.blunt(level), trials-1) * search(s.sharp(level), trials-1)
		}
		found[key] = number
		return number
	}
	return search
}

// reach returns how many levels can be examined: those below the first trial's
// level, this level, and those above it.
func reach(blades, trials int) int {
	if blades == 0 || trials == 0 {
		return 0
	}
	return reach(blades-1, trials-1) + 1 + reach(blades, trials-1)
}

// tariff is what a trial costs, and what a blade costs.
type tariff struct{ trial, blade int }

// inTrials returns the tariff by which plans cost as much as they have trials in
// the worst case.
func inTrials() tariff { return tariff{trial: 1} }

// of returns what a plan costs, by what the parts after a blunt and a sharp
// result of its first trial cost.
func (t tariff) of(blunt, sharp int) int { return t.trial + max(t.blade+blunt, sharp) }

func (t tariff) cheapest() func(s left) int {
	return leastCost(func(_ left, blunt, sharp int) int { return t.of(blunt, sharp) })
}

// first returns the first of the cheapest plans. Its parts need not be cheapest
// themselves, if only the whole plan does not become dearer by them.
func (t tariff) first(s left) []int {
	cost := t.cheapest()
	var plan []int
	var add func(s left, below, limit int)
	add = func(s left, below, limit int) {
		for level := 1; level <= s.levels; level++ {
			blunt, sharp := s.blunt(level), s.sharp(level)
			if t.of(cost(blunt), cost(sharp)) <= limit {
				plan = append(plan, below+level)
				add(blunt, below, limit-t.trial-t.blade)
				add(sharp, below+level, limit-t.trial)
				return
			}
		}
	}
	add(s, 0, cost(s))
	return plan
}
