package trial_test

import (
	"slices"
	"testing"

	"novaculite/api"
	"novaculite/trial"
)

// edges are numbers at the bounds of levels, blades and trials, and beyond.
func edges() []int {
	return list(smallest, smallest+1, -1, 0, 1, 2, 5, 6, 7, 11, 12, 13, 50, 51, greatest-1, greatest)
}

func isIn(number, low, high int) bool { return low <= number && number <= high }

// rangeError returns ErrRange unless all is well.
func rangeError(well bool) api.Errno {
	if well {
		return api.OK
	}
	return api.ErrRange
}

func TestTwoNumbers(t *testing.T) { // P4.1
	for _, a := range edges() {
		for _, b := range edges() {
			for _, x := range []struct {
				name string
				call func(a, b int) (int, api.Errno)
				well bool
			}{
				{"Reach", trial.Reach, isIn(a, 1, 6) && isIn(b, 0, 12)},
				{"Trials", trial.Trials, isIn(a, 0, 12) && isIn(b, 1, 6)},
				{"Blades", trial.Blades, isIn(a, 0, 12) && isIn(b, 0, 12)},
				{"Least", trial.Least, isIn(a, 0, 12) && isIn(b, 1, 6)},
			} {
				n, e := x.call(a, b)
				if (e == api.ErrRange) == x.well || e != api.OK && n != 0 {
					t.Errorf("%s of %d and %d: %d with error %d", x.name, a, b, n, e)
				}
			}
			want := rangeError(isIn(a, 0, 12) && isIn(b, 1, 6))
			first, e := trial.First(a, b)
			if e != want || e != api.OK && len(first) > 0 {
				t.Errorf("First of %d and %d: %v with error %d", a, b, first, e)
			}
			if want == api.OK && a == 0 {
				want = api.ErrEmpty
			}
			choices, e := trial.Choices(a, b)
			if e != want || e != api.OK && len(choices) > 0 {
				t.Errorf("Choices of %d and %d: %v with error %d", a, b, choices, e)
			}
		}
	}
}

func TestThreeNumbers(t *testing.T) { // P4.1, P4.4, P4.10
	for _, a := range edges() {
		for _, b := range edges() {
			for _, c := range edges() {
				n, e := trial.Count(a, b, c)
				if want := rangeError(isIn(a, 0, 12) && isIn(b, 1, 6) && isIn(c, 0, 12)); e != want || e != api.OK && n != 0 {
					t.Errorf("Count of %d, %d and %d: %d with error %d", a, b, c, n, e)
				}
				want := rangeError(isIn(a, 0, 12) && isIn(b, 0, 50) && isIn(c, 0, 50))
				n, e = trial.Price(a, b, c)
				if e != want || e != api.OK && n != 0 {
					t.Errorf("Price of %d, %d and %d: %d with error %d", a, b, c, n, e)
				}
				plan, e := trial.Cheap(a, b, c)
				if e != want || e != api.OK && len(plan) > 0 {
					t.Errorf("Cheap of %d, %d and %d: %v with error %d", a, b, c, plan, e)
				}
				want = rangeError(isIn(a, 0, 12) && isIn(b, 1, 6))
				if want == api.OK && !isIn(c, 1, a) {
					want = api.ErrNone
				}
				worse, e := trial.Worse(a, b, c)
				if e == api.ErrClash {
					e = api.OK
				}
				if e != want || want != api.OK && worse {
					t.Errorf("Worse of %d, %d and %d: %v with error %d", a, b, c, worse, e)
				}
			}
		}
	}
}

// within returns the plans with at most so many blunt results.
func within(all []known, blades int) []known {
	return slices.DeleteFunc(slices.Clone(all), func(k known) bool { return k.blunt() > blades })
}

func TestBestOfAllPlans(t *testing.T) { // P4.2, P4.3, P4.8
	for levels := range trial.MaxLevels + 1 {
		all := knownOf(levels)
		for blades := 1; blades <= trial.MaxBlades; blades++ {
			some := within(all, blades)
			plan, fewest := firstOf(some, known.trials)
			trials, e := trial.Trials(levels, blades)
			wantValue(t, "Trials", trials, e, fewest, api.OK)
			first, e := trial.First(levels, blades)
			wantList(t, "First", first, e, plan, api.OK)
			_, least := firstOf(some, known.sum)
			sum, e := trial.Least(levels, blades)
			wantValue(t, "Least", sum, e, least, api.OK)
			wantChoices(t, levels, blades, some, fewest)
			wantCounts(t, levels, blades, some)
			if t.Failed() {
				t.Fatalf("%d levels, %d blades", levels, blades)
			}
		}
	}
}

func wantChoices(t *testing.T, levels, blades int, some []known, fewest int) {
	t.Helper()
	if levels == 0 {
		return
	}
	var want []int
	for _, k := range some {
		if k.trials() == fewest && !slices.Contains(want, k.plan[0]) {
			want = append(want, k.plan[0])
		}
	}
	slices.Sort(want)
	choices, e := trial.Choices(levels, blades)
	wantList(t, "Choices", choices, e, want, api.OK)
}

// wantCounts compares Count, Reach and Blades with some plans, which are all those
// that are within so many blades.
func wantCounts(t *testing.T, levels, blades int, some []known) {
	t.Helper()
	var with [trial.MaxTrials + 1]int
	for _, k := range some {
		with[k.trials()]++
	}
	number := 0
	for trials := range trial.MaxTrials + 1 {
		number += with[trials]
		count, e := trial.Count(levels, blades, trials)
		wantValue(t, "Count", count, e, number, api.OK)
		if reach, e := trial.Reach(blades, trials); (reach >= levels) != (number > 0) || e != api.OK {
			t.Errorf("Reach of %d and %d: %d with error %d, and %d plans", blades, trials, reach, e, number)
		}
		fewest, e := trial.Blades(levels, trials)
		if (e == api.OK && fewest <= blades) != (number > 0) {
			t.Errorf("Blades of %d and %d: %d with error %d, and %d plans with %d", levels, trials, fewest, e, number, blades)
		}
	}
}

func TestBlades(t *testing.T) { // P4.2
	for i, x := range []struct {
		levels, trials, want int
		e                    api.Errno
	}{
		{0, 0, 1, api.OK},
		{0, 12, 1, api.OK},
		{1, 0, 0, api.ErrLost},
		{1, 1, 1, api.OK},
		{2, 1, 0, api.ErrLost},
		{2, 2, 1, api.OK},
		{3, 2, 2, api.OK},
		{7, 3, 3, api.OK},
		{8, 3, 0, api.ErrLost},
		{10, 4, 2, api.OK},
		{11, 4, 3, api.OK},
		{12, 11, 2, api.OK},
		{12, 12, 1, api.OK},
		{12, 3, 0, api.ErrLost},
	} {
		n, e := trial.Blades(x.levels, x.trials)
		if n != x.want || e != x.e {
			t.Errorf("Blades %d: %d with error %d, want %d with %d", i, n, e, x.want, x.e)
		}
	}
}

func TestFirstHasPartsThatAreNotBest(t *testing.T) { // P4.3
	first, e := trial.First(7, 2)
	wantList(t, "First of 7 and 2", first, e, list(1, 4, 2, 3, 6, 5, 7), api.OK)
	first, e = trial.First(5, 3) // after the first trial two more are allowed, and one suffices
	wantList(t, "First of 5 and 3", first, e, list(2, 1, 4, 3, 5), api.OK)
	first, e = trial.First(6, 3)
	wantList(t, "First of 6 and 3", first, e, list(3, 1, 2, 5, 4, 6), api.OK)
	first, e = trial.First(12, 1)
	wantList(t, "First of 12 and 1", first, e, list(1, 2, 3, 4, 5, 6, 7, 8, 9, 10, 11, 12), api.OK)
}

func TestWorse(t *testing.T) { // P4.4
	var needed [trial.MaxLevels + 1][trial.MaxBlades + 1]int
	for levels := range trial.MaxLevels + 1 {
		all := knownOf(levels)
		for blades := range trial.MaxBlades + 1 {
			_, needed[levels][blades] = firstOf(within(all, blades), known.trials)
		}
	}
	seen := map[api.Errno]int{}
	for levels := range trial.MaxLevels + 1 {
		for blades := 1; blades <= trial.MaxBlades; blades++ {
			for level := 1; level <= levels; level++ {
				b, s := needed[level-1][blades-1], needed[levels-level][blades]
				want, wantE := b > s, api.OK
				if b == s {
					wantE = api.ErrClash
				}
				seen[wantE]++
				worse, e := trial.Worse(levels, blades, level)
				wantValue(t, "Worse", worse, e, want, wantE)
				if t.Failed() {
					t.Fatalf("%d levels, %d blades, level %d", levels, blades, level)
				}
			}
		}
	}
	if len(seen) != 2 {
		t.Errorf("not each error was seen: %v", seen)
	}
}

func TestWorseOfNoLevels(t *testing.T) { // P4.4
	for _, level := range edges() {
		worse, e := trial.Worse(0, 1, level)
		wantValue(t, "Worse", worse, e, false, api.ErrNone)
		worse, e = trial.Worse(0, 0, level)
		wantValue(t, "Worse without a blade", worse, e, false, api.ErrRange)
	}
	worse, e := trial.Worse(1, 1, 1) // nothing is left after either
	wantValue(t, "Worse of 1, 1 and 1", worse, e, false, api.ErrClash)
}
