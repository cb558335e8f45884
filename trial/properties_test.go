package trial_test

import (
	"reflect"
	"slices"
	"strings"
	"testing"

	"novaculite/api"
	"novaculite/trial"
)

func TestReachIsSumOfChoices(t *testing.T) { // P4.11
	for blades := 1; blades <= trial.MaxBlades; blades++ {
		for trials := range trial.MaxTrials + 1 {
			sum := 0
			for some := 1; some <= blades; some++ {
				sum += choose(trials, some)
			}
			reach, e := trial.Reach(blades, trials)
			wantValue(t, "Reach", reach, e, sum, api.OK)
			if reach <= trial.MaxLevels {
				count, e := trial.Count(reach, blades, trials)
				wantValue(t, "Count of so many levels", count, e, 1, api.OK)
			}
			if reach < trial.MaxLevels {
				count, e := trial.Count(reach+1, blades, trials)
				wantValue(t, "Count of one level more", count, e, 0, api.OK)
			}
		}
	}
}

func TestReachByFirstTrial(t *testing.T) { // P4.12
	for blades := 1; blades <= trial.MaxBlades; blades++ {
		for trials := 1; trials <= trial.MaxTrials; trials++ {
			below := 0
			if blades > 1 {
				below, _ = trial.Reach(blades-1, trials-1)
			}
			above, _ := trial.Reach(blades, trials-1)
			reach, e := trial.Reach(blades, trials)
			wantValue(t, "Reach", reach, e, below+1+above, api.OK)
		}
	}
}

func TestWordsOfPlans(t *testing.T) { // P4.13
	for levels := range 9 {
		for _, plan := range plansOf(levels) {
			all, _ := trial.Words(plan)
			trials, blades, _ := trial.Worst(plan)
			for i, w := range all {
				if i > 0 && (w <= all[i-1] || strings.HasPrefix(w, all[i-1])) {
					t.Errorf("word %q behind %q", w, all[i-1])
				}
				if strings.Count(w, "b") > blades || len(w) > trials {
					t.Errorf("word %q with %d blades and %d trials", w, blades, trials)
				}
			}
			if reach, _ := trial.Reach(min(max(blades, 1), trial.MaxBlades), trials); blades <= trial.MaxBlades && levels > reach {
				t.Errorf("%d levels, but Reach is %d", levels, reach)
			}
			if t.Failed() {
				t.Fatalf("plan %v", plan)
			}
		}
	}
}

func TestThereAndBack(t *testing.T) { // P4.14
	r := newRandom()
	for range 2000 {
		all := randomWords(r, "", 1+r.IntN(13))
		plan, e := trial.Plan(all)
		wantErrno(t, "Plan", e, api.OK)
		back, e := trial.Words(plan)
		wantList(t, "Words of Plan", back, e, all, api.OK)
		plan = randomPlan(r, 0, r.IntN(13))
		all, e = trial.Words(plan)
		wantErrno(t, "Words", e, api.OK)
		again, e := trial.Plan(all)
		wantList(t, "Plan of Words", again, e, plan, api.OK)
		if t.Failed() {
			t.Fatalf("words %q", all)
		}
	}
}

func TestNumberOfAllPlans(t *testing.T) { // P4.15
	catalan := list(1, 1, 2, 5, 14, 42, 132, 429, 1430, 4862, 16796, 58786, 208012)
	for levels, want := range catalan {
		for blades := levels; blades <= trial.MaxBlades; blades++ {
			for trials := levels; trials <= trial.MaxTrials; trials++ {
				count, e := trial.Count(levels, max(blades, 1), trials)
				wantValue(t, "Count", count, e, want, api.OK)
			}
		}
		if number := len(plansOf(levels)); number != want {
			t.Errorf("%d plans for %d levels, want %d", number, levels, want)
		}
	}
}

func TestEachTrialIsNeeded(t *testing.T) { // P4.16
	for levels := range 8 {
		for _, plan := range plansOf(levels) {
			for hardness := range levels + 1 {
				wantOpenTrials(t, plan, hardness)
			}
		}
	}
}

// wantOpenTrials checks that the result of each trial is open before it is made,
// and that the hardness is known behind the last one.
func wantOpenTrials(t *testing.T, plan []int, hardness int) {
	t.Helper()
	var before []trial.Result
	run, _ := trial.Run(plan, hardness)
	for _, level := range run {
		_, _, e := trial.Known(len(plan), append(slices.Clone(before), blunt(level)))
		wantErrno(t, "Known of a blunt result", e, api.OK)
		_, _, e = trial.Known(len(plan), append(slices.Clone(before), sharp(level)))
		wantErrno(t, "Known of a sharp result", e, api.OK)
		before = append(before, trial.Result{Level: level, Blunt: level > hardness})
	}
	low, high, e := trial.Known(len(plan), before)
	wantTwo(t, "Known at the end", low, high, e, hardness, hardness, api.OK)
	if t.Failed() {
		t.Fatalf("plan %v, hardness %d", plan, hardness)
	}
}

func TestMoreIsNotWorse(t *testing.T) { // P4.17
	for blades := 1; blades <= trial.MaxBlades; blades++ {
		for trials := range trial.MaxTrials + 1 {
			reach, _ := trial.Reach(blades, trials)
			if more, e := trial.Reach(blades+1, trials); e == api.OK && more < reach {
				t.Errorf("Reach of %d and %d: one more blade is worse", blades, trials)
			}
			if more, e := trial.Reach(blades, trials+1); e == api.OK && more < reach {
				t.Errorf("Reach of %d and %d: one more trial is worse", blades, trials)
			}
			for levels := range trial.MaxLevels + 1 {
				count, _ := trial.Count(levels, blades, trials)
				if more, e := trial.Count(levels, blades+1, trials); e == api.OK && more < count {
					t.Errorf("Count of %d, %d and %d: one more blade is worse", levels, blades, trials)
				}
				if more, e := trial.Count(levels, blades, trials+1); e == api.OK && more < count {
					t.Errorf("Count of %d, %d and %d: one more trial is worse", levels, blades, trials)
				}
			}
		}
	}
}

func TestOneMoreLevel(t *testing.T) { // P4.17
	for levels := range trial.MaxLevels {
		for blades := 1; blades <= trial.MaxBlades; blades++ {
			trials, _ := trial.Trials(levels, blades)
			if more, _ := trial.Trials(levels+1, blades); more < trials || more > trials+1 {
				t.Errorf("Trials of %d and %d: %d, and %d with one more level", levels, blades, trials, more)
			}
			least, _ := trial.Least(levels, blades)
			if more, _ := trial.Least(levels+1, blades); more < least {
				t.Errorf("Least of %d and %d: %d, and %d with one more level", levels, blades, least, more)
			}
		}
		for price := range trial.MaxPrice + 1 {
			for blade := range trial.MaxPrice + 1 {
				less, _ := trial.Price(levels, price, blade)
				if more, _ := trial.Price(levels+1, price, blade); more < less {
					t.Errorf("Price of %d, %d and %d: %d, and %d with one more level", levels, price, blade, less, more)
				}
			}
		}
	}
}

func TestOneMoreResult(t *testing.T) { // P4.17
	r := newRandom()
	for range 3000 {
		levels := 1 + r.IntN(trial.MaxLevels)
		l := agreeing(r, levels, trial.MaxResults)
		low, high, _ := trial.Known(levels, nil)
		for i := range l {
			a, b, e := trial.Known(levels, l[:i+1])
			if e != api.OK || a < low || b > high {
				t.Fatalf("%d levels, results %v: %d to %d with error %d, before %d to %d", levels, l[:i+1], a, b, e, low, high)
			}
			low, high = a, b
		}
	}
}

func TestPricesGrow(t *testing.T) { // P4.18
	for levels := range trial.MaxLevels + 1 {
		trials, _ := trial.Trials(levels, trial.MaxBlades) // enough of them for 12 levels
		for price := range trial.MaxPrice + 1 {
			n, e := trial.Price(levels, price, 0)
			wantValue(t, "Price without blades", n, e, price*trials, api.OK)
			for blade := range trial.MaxPrice + 1 {
				n, _ := trial.Price(levels, price, blade)
				if more, e := trial.Price(levels, price+1, blade); e == api.OK && more < n {
					t.Errorf("Price of %d, %d and %d: %d, and %d with dearer trials", levels, price, blade, n, more)
				}
				if more, e := trial.Price(levels, price, blade+1); e == api.OK && more < n {
					t.Errorf("Price of %d, %d and %d: %d, and %d with dearer blades", levels, price, blade, n, more)
				}
			}
		}
	}
}

// answers returns what all functions return for some arguments.
func answers(numbers [3]int, plan []int, l []string, made []trial.Result) []any {
	var all []any
	add := func(results ...any) { all = append(all, results...) }
	two := func(result any, e api.Errno) { add(result, e) }
	three := func(a, b int, e api.Errno) { add(a, b, e) }
	a, b, c := numbers[0], numbers[1], numbers[2]
	two(trial.Reach(a, b))
	two(trial.Trials(a, b))
	two(trial.Blades(a, b))
	two(trial.Count(a, b, c))
	two(trial.First(a, b))
	two(trial.Choices(a, b))
	two(trial.Worse(a, b, c))
	add(trial.Check(plan))
	two(trial.Run(plan, a))
	two(trial.Word(plan, a))
	two(trial.Words(plan))
	two(trial.Plan(l))
	three(trial.Worst(plan))
	two(trial.Sum(plan))
	two(trial.Least(a, b))
	add(trial.Proves(plan, b))
	three(trial.Known(a, made))
	three(trial.Why(a, made))
	two(trial.Price(a, b, c))
	two(trial.Cheap(a, b, c))
	return all
}

func TestArgumentsStayAndAnswersRepeat(t *testing.T) { // P1, R4
	r := newRandom()
	for range 3000 {
		numbers := [3]int{anyOf(r, edges()), anyOf(r, edges()), anyOf(r, edges())}
		if r.IntN(2) == 0 {
			numbers = [3]int{r.IntN(13), 1 + r.IntN(6), r.IntN(13)}
		}
		plan := randomPlan(r, 0, r.IntN(15))
		for range r.IntN(2) * len(plan) {
			plan[r.IntN(len(plan))] = anyOf(r, append(edges(), plan...))
		}
		l := randomWords(r, anyOf(r, words("", "", "", "b", "?")), 1+r.IntN(15))
		made := append(randomResults(r, 12, r.IntN(22)), results(blunt(anyOf(r, edges())))[r.IntN(2):]...)
		plan2, l2, made2 := slices.Clone(plan), slices.Clone(l), slices.Clone(made)
		first := answers(numbers, plan, l, made)
		if !slices.Equal(plan, plan2) || !slices.Equal(l, l2) || !slices.Equal(made, made2) {
			t.Fatalf("arguments were changed: %v %v %v", plan2, l2, made2)
		}
		if !reflect.DeepEqual(first, answers(numbers, plan, l, made)) {
			t.Fatalf("other answers: %v %v %v %v", numbers, plan, l, made)
		}
	}
}

func TestResultsAreOwnMemory(t *testing.T) { // R4
	plan := six()
	run, _ := trial.Run(plan, 2)
	run[0] = 99
	_ = append(run[:1], 98, 97, 96, 95)
	first, _ := trial.First(6, 2)
	first[0] = 99
	cheap, _ := trial.Cheap(6, 1, 0)
	cheap[0] = 99
	if !slices.Equal(plan, six()) {
		t.Errorf("the plan became %v", plan)
	}
	first, e := trial.First(6, 2)
	wantList(t, "First", first, e, six(), api.OK)
	cheap, e = trial.Cheap(6, 1, 0)
	wantList(t, "Cheap", cheap, e, six(), api.OK)
	all := words("bb", "bs", "sb", "ss")
	three, _ := trial.Plan(all)
	all[0] = "s"
	wantList(t, "Plan", three, api.OK, list(2, 1, 3), api.OK)
}
