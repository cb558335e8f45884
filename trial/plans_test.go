package trial_test

import (
	"slices"
	"strings"
	"testing"

	"novaculite/api"
	"novaculite/trial"
)

// countTo returns the numbers from 1 on, to a last one.
func countTo(last int) []int {
	var l []int
	for n := 1; n <= last; n++ {
		l = append(l, n)
	}
	return l
}

func reversed(l []int) []int {
	slices.Reverse(l)
	return l
}

func TestCheck(t *testing.T) { // P4.5
	for i, x := range []struct {
		plan []int
		want api.Errno
	}{
		{nil, api.OK},
		{list(), api.OK},
		{list(1), api.OK},
		{six(), api.OK},
		{countTo(12), api.OK},
		{reversed(countTo(12)), api.OK},
		{countTo(13), api.ErrMany},
		{make([]int, 13), api.ErrMany},
		{list(0), api.ErrNone},
		{list(2), api.ErrNone},
		{list(greatest), api.ErrNone},
		{list(smallest), api.ErrNone},
		{list(1, 1), api.ErrTwice},
		{list(1, 1, 4), api.ErrTwice},
		{list(1, 4, 1), api.ErrNone},
		{list(2, 3, 1), api.ErrOrder},
		{list(1, 3, 4, 2), api.ErrOrder},       // in the part that follows a sharp result
		{list(4, 2, 3, 1), api.ErrOrder},       // in the part that follows a blunt one
		{list(3, 1, 4, 2), api.ErrOrder},       // a greater one between smaller ones
		{list(4, 2, 6, 1, 3, 5), api.ErrOrder}, // trials that are made later behind all others
		{list(2, 3, 3, 1), api.ErrTwice},
		{list(2, 3, 1, 9), api.ErrNone},
	} {
		if e := trial.Check(x.plan); e != x.want {
			t.Errorf("Check %d: %d, want %d", i, e, x.want)
		}
	}
}

func TestCheckOfAllLists(t *testing.T) { // P4.5
	seen := map[api.Errno]int{}
	for length := range 6 {
		for _, plan := range listsOf(length, length+1) {
			want := checkOf(plan)
			seen[want]++
			wantErrno(t, "Check", trial.Check(plan), want)
			if t.Failed() {
				t.Fatalf("plan %v", plan)
			}
		}
	}
	if len(seen) != 4 {
		t.Errorf("not each error was seen: %v", seen)
	}
}

// listsOf returns all lists of so many numbers from 0 to a last one.
func listsOf(length, last int) [][]int {
	lists := [][]int{nil}
	for range length {
		var longer [][]int
		for _, l := range lists {
			for n := range last + 1 {
				longer = append(longer, append(slices.Clone(l), n))
			}
		}
		lists = longer
	}
	return lists
}

func TestCheckAcceptsAllPlans(t *testing.T) { // P4.5
	for levels := range 8 {
		accepted := 0
		for _, plan := range ordersOf(levels) {
			if trial.Check(plan) == api.OK {
				accepted++
			}
		}
		plans := plansOf(levels)
		for _, plan := range plans {
			wantErrno(t, "Check of a plan", trial.Check(plan), api.OK)
		}
		if accepted != len(plans) {
			t.Errorf("%d levels: %d plans are accepted of %d", levels, accepted, len(plans))
		}
	}
}

// ordersOf returns all orders of the numbers from 1 to a last one.
func ordersOf(last int) [][]int {
	orders := [][]int{nil}
	for n := 1; n <= last; n++ {
		var longer [][]int
		for _, l := range orders {
			for at := range n {
				longer = append(longer, slices.Insert(slices.Clone(l), at, n))
			}
		}
		orders = longer
	}
	return orders
}

func TestErrorsOfPlansComeFirst(t *testing.T) { // P4.1, P4.5, P4.6, P4.8
	for i, x := range []struct {
		plan []int
		want api.Errno
	}{
		{countTo(13), api.ErrMany},
		{list(1, 3), api.ErrNone},
		{list(1, 1), api.ErrTwice},
		{list(2, 3, 1), api.ErrOrder},
	} {
		for _, hardness := range list(smallest, -1, 0, 1, 13, greatest) {
			run, e := trial.Run(x.plan, hardness)
			wantList(t, "Run", run, e, nil, x.want)
			word, e := trial.Word(x.plan, hardness)
			wantValue(t, "Word", word, e, "", x.want)
			wantErrno(t, "Proves", trial.Proves(x.plan, hardness), x.want)
		}
		all, e := trial.Words(x.plan)
		wantList(t, "Words", all, e, nil, x.want)
		trials, blades, e := trial.Worst(x.plan)
		wantTwo(t, "Worst", trials, blades, e, 0, 0, x.want)
		sum, e := trial.Sum(x.plan)
		wantValue(t, "Sum", sum, e, 0, x.want)
		if t.Failed() {
			t.Fatalf("plan %d", i)
		}
	}
}

func TestHardnessBeyondLevels(t *testing.T) { // P4.6
	for levels := range trial.MaxLevels + 1 {
		plan := countTo(levels)
		for _, hardness := range list(smallest, -1, levels+1, levels+2, greatest) {
			run, e := trial.Run(plan, hardness)
			wantList(t, "Run", run, e, nil, api.ErrNone)
			word, e := trial.Word(plan, hardness)
			wantValue(t, "Word", word, e, "", api.ErrNone)
		}
	}
}

func TestAllPlans(t *testing.T) { // P4.6, P4.7, P4.8, P4.14
	for levels := range 9 {
		for _, k := range knownOf(levels) {
			wantPlan(t, k.plan)
			trials, blades, e := trial.Worst(k.plan)
			wantTwo(t, "Worst", trials, blades, e, k.trials(), k.blunt(), api.OK)
			sum, e := trial.Sum(k.plan)
			wantValue(t, "Sum", sum, e, k.sum(), api.OK)
			if t.Failed() {
				t.Fatalf("plan %v", k.plan)
			}
		}
	}
}

// wantPlan compares Run, Word, Words and Plan with what a plan is.
func wantPlan(t *testing.T, plan []int) {
	t.Helper()
	want := wordsOf(plan)
	for hardness := range len(plan) + 1 {
		run, e := trial.Run(plan, hardness)
		wantList(t, "Run", run, e, levelsOf(plan, hardness), api.OK)
		word, e := trial.Word(plan, hardness)
		wantValue(t, "Word", word, e, want[hardness], api.OK)
	}
	all, e := trial.Words(plan)
	wantList(t, "Words", all, e, want, api.OK)
	back, e := trial.Plan(want)
	wantList(t, "Plan", back, e, plan, api.OK)
}

func TestRandomPlans(t *testing.T) { // P4.6, P4.7, P4.14
	r := newRandom()
	for range 2000 {
		plan := randomPlan(r, 0, 9+r.IntN(4))
		wantPlan(t, plan)
		if t.Failed() {
			t.Fatalf("plan %v", plan)
		}
	}
}

func TestPlan(t *testing.T) { // P4.7
	long := strings.Repeat("s", 12)
	for i, x := range []struct {
		words []string
		plan  []int
		e     api.Errno
	}{
		{words("b", "s"), list(1), api.OK},
		{words("b", "sb", "ss"), list(1, 2), api.OK},
		{words("bb", "bs", "s"), list(2, 1), api.OK},
		{words("bb", "bsb", "bss", "s"), list(3, 1, 2), api.OK},
		{words(), nil, api.ErrEmpty},
		{make([]string, 14), nil, api.ErrMany},
		{make([]string, 13), nil, api.ErrOrder},
		{words(long + "s"), nil, api.ErrLong},
		{words(strings.Repeat("x", 13)), nil, api.ErrLong},
		{words("b", long+"s", "x"), nil, api.ErrLong},
		{words("b", "x", long+"s"), nil, api.ErrForm},
		{words("s", "b", "sxs"), nil, api.ErrForm},
		{words("B"), nil, api.ErrForm},
		{words("b "), nil, api.ErrForm},
		{words("s\x00"), nil, api.ErrForm},
		{words("b\xffs"), nil, api.ErrForm},
		{words("\u00e4"), nil, api.ErrForm},
		{words("b", "b"), nil, api.ErrOrder},
		{words("", ""), nil, api.ErrOrder},
		{words("bs", "b"), nil, api.ErrOrder},
		{words("b", "bs", "bb"), nil, api.ErrOrder},
		{words("", "b", "s"), nil, api.ErrClash},
		{words("b", "bb", "bs", "s"), nil, api.ErrClash},
		{words("b", "bbb", "ss"), nil, api.ErrClash},
		{words("s"), nil, api.ErrOpen},
		{words(long), nil, api.ErrOpen},
		{words("b", "ss"), nil, api.ErrOpen},
		{words("bb", "s"), nil, api.ErrOpen},
		{words("bb", "bs"), nil, api.ErrOpen},
		{words("sb", "ss"), nil, api.ErrOpen},
		{words("bb", "bs", "sb", "sss"), nil, api.ErrOpen},
	} {
		plan, e := trial.Plan(x.words)
		if !slices.Equal(plan, x.plan) || e != x.e {
			t.Errorf("Plan %d: %v with error %d, want %v with %d", i, plan, e, x.plan, x.e)
		}
	}
}

func TestPlanOfLongestWords(t *testing.T) { // P4.7
	for _, plan := range [][]int{countTo(12), reversed(countTo(12))} {
		back, e := trial.Plan(wordsOf(plan))
		wantList(t, "Plan", back, e, plan, api.OK)
	}
}

func TestPlanOfAllShortWords(t *testing.T) { // P4.7
	plans := map[string][]int{}
	for levels := range 8 {
		for _, plan := range plansOf(levels) {
			plans[strings.Join(wordsOf(plan), " ")+"."] = plan
		}
	}
	short := words("", "b", "bb", "bbb", "bbs", "bs", "bsb", "bss", "s", "sb", "sbb", "sbs", "ss", "ssb", "sss")
	seen := map[api.Errno]int{}
	for mask := range 1 << len(short) {
		var some []string
		for i, w := range short {
			if mask>>i&1 == 1 {
				some = append(some, w)
			}
		}
		want := wordsErrorOf(some)
		seen[want]++
		plan, e := trial.Plan(some)
		wantList(t, "Plan", plan, e, plans[strings.Join(some, " ")+"."], want)
		if t.Failed() {
			t.Fatalf("words %q", some)
		}
	}
	if len(seen) != 5 || seen[api.OK] != 1+5*5 { // the empty plan, and each two plans behind a trial that have at most two
		t.Errorf("errors seen: %v", seen)
	}
}

func TestPlanOfSpoiledWords(t *testing.T) { // P4.7
	r := newRandom()
	seen := map[api.Errno]int{}
	for range 5000 {
		all := randomWords(r, "", 1+r.IntN(13))
		for range r.IntN(3) {
			i := r.IntN(len(all))
			switch r.IntN(7) {
			case 0:
				all = slices.Delete(all, i, i+1)
			case 1:
				all = slices.Insert(all, i, all[i])
			case 2:
				all[i] += anyOf(r, words("b", "s", "x", "bsbsbsbsbsbs"))
			case 3:
				all[i] = all[i][:len(all[i])/2]
			case 4:
				j := r.IntN(len(all))
				all[i], all[j] = all[j], all[i]
			case 5:
				all[i] = anyOf(r, all) + "b"
				slices.Sort(all)
			case 6:
				all = append(all, anyOf(r, all)+"s")
				slices.Sort(all)
			}
			if len(all) == 0 {
				break
			}
		}
		want := wordsErrorOf(all)
		seen[want]++
		plan, e := trial.Plan(all)
		if e != want || e != api.OK && len(plan) > 0 || e == api.OK && !slices.Equal(wordsOf(plan), all) {
			t.Fatalf("Plan of %q: %v with error %d, want %d", all, plan, e, want)
		}
	}
	if len(seen) != 8 {
		t.Errorf("not each error was seen: %v", seen)
	}
}

func TestProves(t *testing.T) { // P4.8
	for i, x := range []struct {
		plan   []int
		blades int
		want   api.Errno
	}{
		{nil, 1, api.OK},
		{nil, 6, api.OK},
		{list(1), 1, api.OK},
		{six(), 3, api.OK},
		{six(), 6, api.OK},
		{six(), 1, api.ErrOver},
		{list(3, 2, 1), 3, api.ErrProof},
		{list(3, 2, 1), 2, api.ErrOver},
		{countTo(12), 1, api.OK},
		{countTo(12), 2, api.ErrProof},
		{reversed(countTo(12)), 6, api.ErrOver},
		{reversed(countTo(6)), 6, api.ErrProof},
		{list(1, 4, 2, 3), 2, api.ErrProof}, // one trial fewer suffices just so
		{list(1, 4, 2, 3, 6, 5, 7), 2, api.OK},
		{list(1, 4, 2, 3, 6, 5, 7), 3, api.ErrProof},
		{nil, 0, api.ErrRange},
		{nil, 7, api.ErrRange},
		{six(), -1, api.ErrRange},
		{six(), smallest, api.ErrRange},
		{six(), greatest, api.ErrRange},
	} {
		if e := trial.Proves(x.plan, x.blades); e != x.want {
			t.Errorf("Proves %d: %d, want %d", i, e, x.want)
		}
	}
}

func TestProvesOfAllPlans(t *testing.T) { // P4.8
	for levels := range 9 {
		all := knownOf(levels)
		for blades := 1; blades <= trial.MaxBlades; blades++ {
			_, fewest := firstOf(within(all, blades), known.trials)
			for _, k := range all {
				want := api.OK
				if k.blunt() > blades {
					want = api.ErrOver
				} else if k.trials() > fewest {
					want = api.ErrProof
				}
				wantErrno(t, "Proves", trial.Proves(k.plan, blades), want)
				if t.Failed() {
					t.Fatalf("plan %v, %d blades", k.plan, blades)
				}
			}
		}
	}
}
