package trial_test

import (
	"slices"
	"strings"

	"novaculite/api"
	"novaculite/trial"
)

// The functions of this file say again, in the plainest way, what the chapter
// defines; no one of them uses the package's functions.

// plansOf returns all plans for levels, in ascending order.
func plansOf(levels int) [][]int {
	if levels == 0 {
		return [][]int{nil}
	}
	var plans [][]int
	for level := 1; level <= levels; level++ {
		above := plansOf(levels - level)
		for _, p := range plansOf(level - 1) {
			for _, q := range above {
				plan := append(list(level), p...)
				for _, l := range q {
					plan = append(plan, level+l)
				}
				plans = append(plans, plan)
			}
		}
	}
	slices.SortFunc(plans, slices.Compare)
	return plans
}

// resultsOf returns the results of the trials that a plan makes: a level is tried
// just if the results before do not say what the result is.
func resultsOf(plan []int, hardness int) []trial.Result {
	var made []trial.Result
	low, high := 0, len(plan)
	for _, level := range plan {
		if level <= low || level > high {
			continue
		}
		made = append(made, trial.Result{Level: level, Blunt: level > hardness})
		if level > hardness {
			high = level - 1
		} else {
			low = level
		}
	}
	return made
}

func levelsOf(plan []int, hardness int) []int {
	var levels []int
	for _, r := range resultsOf(plan, hardness) {
		levels = append(levels, r.Level)
	}
	return levels
}

func wordOf(plan []int, hardness int) string {
	word := ""
	for _, r := range resultsOf(plan, hardness) {
		if r.Blunt {
			word += "b"
		} else {
			word += "s"
		}
	}
	return word
}

func wordsOf(plan []int) []string {
	var all []string
	for hardness := range len(plan) + 1 {
		all = append(all, wordOf(plan, hardness))
	}
	return all
}

// course is how many trials are made for a hardness, and how many of them blunt a blade.
type course struct{ trials, blunt int }

// known is a plan, and its course for each hardness.
type known struct {
	plan    []int
	courses []course
}

func knownOf(levels int) []known {
	var all []known
	for _, plan := range plansOf(levels) {
		k := known{plan: plan}
		for hardness := range levels + 1 {
			var c course
			for _, r := range resultsOf(plan, hardness) {
				c.trials++
				if r.Blunt {
					c.blunt++
				}
			}
			k.courses = append(k.courses, c)
		}
		all = append(all, k)
	}
	return all
}

func (k known) greatest(of func(c course) int) int {
	most := 0
	for _, c := range k.courses {
		most = max(most, of(c))
	}
	return most
}

func (k known) trials() int { return k.greatest(func(c course) int { return c.trials }) }

func (k known) blunt() int { return k.greatest(func(c course) int { return c.blunt }) }

func (k known) price(trial, blade int) int {
	return k.greatest(func(c course) int { return trial*c.trials + blade*c.blunt })
}

func (k known) sum() int {
	sum := 0
	for _, c := range k.courses {
		sum += c.trials
	}
	return sum
}

// firstOf returns the first of the plans with the least cost, and this cost.
func firstOf(all []known, cost func(k known) int) (plan []int, least int) {
	least = greatest
	for _, k := range all {
		if c := cost(k); c < least {
			plan, least = k.plan, c
		}
	}
	return plan, least
}

// checkOf says what is wrong with a plan.
func checkOf(plan []int) api.Errno {
	if len(plan) > 12 {
		return api.ErrMany
	}
	for i, l := range plan {
		if l < 1 || l > len(plan) {
			return api.ErrNone
		}
		for _, m := range plan[:i] {
			if m == l {
				return api.ErrTwice
			}
		}
	}
	if !isPlan(plan) {
		return api.ErrOrder
	}
	return api.OK
}

// isPlan reports whether behind each number all smaller ones of its part come
// before all greater ones. The numbers are different.
func isPlan(part []int) bool {
	if len(part) == 0 {
		return true
	}
	isSmaller := func(l int) bool { return l < part[0] }
	isGreater := func(l int) bool { return l > part[0] }
	smaller := slices.DeleteFunc(slices.Clone(part[1:]), isGreater)
	greater := slices.DeleteFunc(slices.Clone(part[1:]), isSmaller)
	return slices.Equal(part[1:], append(slices.Clone(smaller), greater...)) && isPlan(smaller) && isPlan(greater)
}

// wordsErrorOf says what is wrong with words.
func wordsErrorOf(all []string) api.Errno {
	if len(all) == 0 {
		return api.ErrEmpty
	}
	if len(all) > 13 {
		return api.ErrMany
	}
	for _, w := range all {
		if len(w) > 12 {
			return api.ErrLong
		}
		for i := range len(w) {
			if w[i] != 'b' && w[i] != 's' {
				return api.ErrForm
			}
		}
	}
	for i := range len(all) - 1 {
		if all[i] >= all[i+1] {
			return api.ErrOrder
		}
	}
	for i, w := range all {
		for j, v := range all {
			if i != j && strings.HasPrefix(v, w) {
				return api.ErrClash
			}
		}
	}
	if isOpen(all) {
		return api.ErrOpen
	}
	return api.OK
}

func isOpen(all []string) bool {
	continued := func(beginning string) bool {
		return slices.ContainsFunc(all, func(w string) bool { return strings.HasPrefix(w, beginning) })
	}
	for _, w := range all {
		for length := range len(w) {
			if continued(w[:length]+"b") != continued(w[:length]+"s") {
				return true
			}
		}
	}
	return false
}

// allowed returns the hardnesses with which all results agree.
func allowed(levels int, l []trial.Result) []int {
	var all []int
	for hardness := range levels + 1 {
		if !slices.ContainsFunc(l, func(r trial.Result) bool { return r.Blunt != (r.Level > hardness) }) {
			all = append(all, hardness)
		}
	}
	return all
}

func contradict(a, b trial.Result) bool {
	if a.Blunt == b.Blunt {
		return false
	}
	if b.Blunt {
		a, b = b, a
	}
	return a.Level <= b.Level
}

// firstPair returns the first two results that contradict each other.
func firstPair(l []trial.Result) (i, j int, found bool) {
	for i := range l {
		for j := range l {
			if i < j && contradict(l[i], l[j]) {
				return i, j, true
			}
		}
	}
	return 0, 0, false
}

// choose returns the number of ways to choose some of a number of things.
func choose(of, some int) int {
	if some == 0 {
		return 1
	}
	if of == 0 {
		return 0
	}
	return choose(of-1, some) + choose(of-1, some-1)
}
