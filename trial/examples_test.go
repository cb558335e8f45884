package trial_test

import (
	"testing"

	"novaculite/api"
	"novaculite/trial"
)

// Each test of this file is a row of the chapter's table of examples.

func TestExampleReach(t *testing.T) {
	for _, x := range []struct {
		name                 string
		blades, trials, want int
		e                    api.Errno
	}{
		{"1 and 5", 1, 5, 5, api.OK},
		{"2 and 3", 2, 3, 6, api.OK},
		{"6 and 4", 6, 4, 15, api.OK},
		{"2 and 0", 2, 0, 0, api.OK},
		{"0 and 3", 0, 3, 0, api.ErrRange},
	} {
		n, e := trial.Reach(x.blades, x.trials)
		wantValue(t, "Reach of "+x.name, n, e, x.want, x.e)
	}
}

func TestExampleTrialsBlades(t *testing.T) {
	for _, x := range []struct {
		name                 string
		levels, blades, want int
	}{{"6 and 2", 6, 2, 3}, {"6 and 1", 6, 1, 6}, {"0 and 1", 0, 1, 0}, {"12 and 6", 12, 6, 4}} {
		n, e := trial.Trials(x.levels, x.blades)
		wantValue(t, "Trials of "+x.name, n, e, x.want, api.OK)
	}
	for _, x := range []struct {
		name                 string
		levels, trials, want int
		e                    api.Errno
	}{{"6 and 3", 6, 3, 2, api.OK}, {"6 and 6", 6, 6, 1, api.OK}, {"6 and 2", 6, 2, 0, api.ErrLost}} {
		n, e := trial.Blades(x.levels, x.trials)
		wantValue(t, "Blades of "+x.name, n, e, x.want, x.e)
	}
}

func TestExampleCount(t *testing.T) {
	for _, x := range []struct {
		name                         string
		levels, blades, trials, want int
	}{{"3, 2, 2", 3, 2, 2, 1}, {"3, 1, 3", 3, 1, 3, 1}, {"3, 2, 3", 3, 2, 3, 4}, {"3, 3, 3", 3, 3, 3, 5}, {"3, 1, 2", 3, 1, 2, 0}} {
		n, e := trial.Count(x.levels, x.blades, x.trials)
		wantValue(t, "Count of "+x.name, n, e, x.want, api.OK)
	}
}

func TestExampleFirstChoices(t *testing.T) {
	for _, x := range []struct {
		name           string
		levels, blades int
		want           []int
	}{{"6 and 2", 6, 2, six()}, {"3 and 1", 3, 1, list(1, 2, 3)}, {"4 and 2", 4, 2, list(1, 3, 2, 4)}} {
		first, e := trial.First(x.levels, x.blades)
		wantList(t, "First of "+x.name, first, e, x.want, api.OK)
	}
	for _, x := range []struct {
		name           string
		levels, blades int
		want           []int
		e              api.Errno
	}{{"6 and 2", 6, 2, list(3), api.OK}, {"4 and 2", 4, 2, list(1, 2, 3), api.OK}, {"0 and 1", 0, 1, nil, api.ErrEmpty}} {
		choices, e := trial.Choices(x.levels, x.blades)
		wantList(t, "Choices of "+x.name, choices, e, x.want, x.e)
	}
}

func TestExampleWorse(t *testing.T) {
	for _, x := range []struct {
		name                  string
		levels, blades, level int
		want                  bool
		e                     api.Errno
	}{
		{"6, 2 and 3", 6, 2, 3, false, api.ErrClash},
		{"6, 2 and 1", 6, 2, 1, false, api.OK},
		{"6, 2 and 6", 6, 2, 6, true, api.OK},
		{"2, 1 and 2", 2, 1, 2, true, api.OK},
		{"6, 2 and 7", 6, 2, 7, false, api.ErrNone},
	} {
		worse, e := trial.Worse(x.levels, x.blades, x.level)
		wantValue(t, "Worse of "+x.name, worse, e, x.want, x.e)
	}
}

func TestExampleCheck(t *testing.T) {
	wantErrno(t, "Check of 2, 1, 3", trial.Check(list(2, 1, 3)), api.OK)
	wantErrno(t, "Check of 2, 3, 1", trial.Check(list(2, 3, 1)), api.ErrOrder)
	wantErrno(t, "Check of 1, 1", trial.Check(list(1, 1)), api.ErrTwice)
	wantErrno(t, "Check of 1, 3", trial.Check(list(1, 3)), api.ErrNone)
}

func TestExampleRunWordWords(t *testing.T) {
	run, e := trial.Run(six(), 2)
	wantList(t, "Run: 2", run, e, list(3, 1, 2), api.OK)
	run, e = trial.Run(six(), 6)
	wantList(t, "Run: 6", run, e, list(3, 5, 6), api.OK)
	word, e := trial.Word(six(), 0)
	wantValue(t, "Word: 0", word, e, "bb", api.OK)
	word, e = trial.Word(six(), 4)
	wantValue(t, "Word: 4", word, e, "sbs", api.OK)
	word, e = trial.Word(six(), 7)
	wantValue(t, "Word: 7", word, e, "", api.ErrNone)
	all, e := trial.Words(list(2, 1, 3))
	wantList(t, "Words of 2, 1, 3", all, e, words("bb", "bs", "sb", "ss"), api.OK)
	all, e = trial.Words(nil)
	wantList(t, "Words of no numbers", all, e, words(""), api.OK)
}

func TestExamplePlan(t *testing.T) {
	for _, x := range []struct {
		name  string
		words []string
		want  []int
		e     api.Errno
	}{
		{"bb, bs, sb, ss", words("bb", "bs", "sb", "ss"), list(2, 1, 3), api.OK},
		{"the empty one", words(""), nil, api.OK},
		{"none", nil, nil, api.ErrEmpty},
		{"b", words("b"), nil, api.ErrOpen},
		{"s, b", words("s", "b"), nil, api.ErrOrder},
		{"b, bs", words("b", "bs"), nil, api.ErrClash},
		{"bx", words("bx"), nil, api.ErrForm},
	} {
		plan, e := trial.Plan(x.words)
		wantList(t, "Plan of "+x.name, plan, e, x.want, x.e)
	}
}

func TestExampleWorstSumLeast(t *testing.T) {
	trials, blades, e := trial.Worst(six())
	wantTwo(t, "Worst", trials, blades, e, 3, 2, api.OK)
	sum, e := trial.Sum(six())
	wantValue(t, "Sum", sum, e, 20, api.OK)
	sum, e = trial.Sum(list(1, 2, 3))
	wantValue(t, "Sum of 1, 2, 3", sum, e, 9, api.OK)
	least, e := trial.Least(6, 2)
	wantValue(t, "Least of 6 and 2", least, e, 20, api.OK)
	least, e = trial.Least(3, 1)
	wantValue(t, "Least of 3 and 1", least, e, 9, api.OK)
}

func TestExampleProves(t *testing.T) {
	wantErrno(t, "3, 1, 2, 5, 4, 6 and 2", trial.Proves(six(), 2), api.OK)
	wantErrno(t, "1, 2, 3 and 2", trial.Proves(list(1, 2, 3), 2), api.ErrProof)
	wantErrno(t, "1, 2, 3 and 1", trial.Proves(list(1, 2, 3), 1), api.OK)
	wantErrno(t, "2, 1, 3 and 1", trial.Proves(list(2, 1, 3), 1), api.ErrOver)
}

func TestExampleKnownWhy(t *testing.T) {
	for _, x := range []struct {
		name      string
		l         []trial.Result
		low, high int
		e         api.Errno
	}{
		{"4 blunt, 2 sharp", results(blunt(4), sharp(2)), 2, 3, api.OK},
		{"nothing", nil, 0, 6, api.OK},
		{"2 blunt, 3 sharp", results(blunt(2), sharp(3)), 0, 0, api.ErrLost},
		{"7 sharp", results(sharp(7)), 0, 0, api.ErrNone},
	} {
		low, high, e := trial.Known(6, x.l)
		wantTwo(t, "Known of 6: "+x.name, low, high, e, x.low, x.high, x.e)
	}
	i, j, e := trial.Why(6, results(blunt(2), sharp(3)))
	wantTwo(t, "Why of 6: 2 blunt, 3 sharp", i, j, e, 0, 1, api.OK)
	i, j, e = trial.Why(6, results(blunt(4), sharp(2)))
	wantTwo(t, "Why of 6: 4 blunt, 2 sharp", i, j, e, 0, 0, api.ErrClash)
}

func TestExamplePriceCheap(t *testing.T) {
	price, e := trial.Price(6, 1, 0)
	wantValue(t, "Price of 6, 1 and 0", price, e, 3, api.OK)
	price, e = trial.Price(3, 1, 1)
	wantValue(t, "Price of 3, 1 and 1", price, e, 4, api.OK)
	price, e = trial.Price(3, 0, 51)
	wantValue(t, "Price of 3, 0 and 51", price, e, 0, api.ErrRange)
	plan, e := trial.Cheap(3, 1, 1)
	wantList(t, "Cheap of 3, 1 and 1", plan, e, list(1, 2, 3), api.OK)
	plan, e = trial.Cheap(3, 1, 0)
	wantList(t, "Cheap of 3, 1 and 0", plan, e, list(2, 1, 3), api.OK)
}
