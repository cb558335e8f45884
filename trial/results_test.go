package trial_test

import (
	"testing"

	"novaculite/api"
	"novaculite/trial"
)

func TestKnownWhy(t *testing.T) { // P4.1, P4.9
	many := make([]trial.Result, trial.MaxResults+1)
	for i, x := range []struct {
		levels          int
		l               []trial.Result
		low, high, a, b int
		known, why      api.Errno
	}{
		{0, nil, 0, 0, 0, 0, api.OK, api.ErrClash},
		{12, results(), 0, 12, 0, 0, api.OK, api.ErrClash},
		{6, results(blunt(1)), 0, 0, 0, 0, api.OK, api.ErrClash},
		{6, results(sharp(6)), 6, 6, 0, 0, api.OK, api.ErrClash},
		{6, results(sharp(3), blunt(4)), 3, 3, 0, 0, api.OK, api.ErrClash},
		{6, results(sharp(3), sharp(1), blunt(5), blunt(6)), 3, 4, 0, 0, api.OK, api.ErrClash},
		{6, results(sharp(3), blunt(3)), 0, 0, 0, 1, api.ErrLost, api.OK},
		{6, results(blunt(3), sharp(3)), 0, 0, 0, 1, api.ErrLost, api.OK},
		{6, results(blunt(6), sharp(1), sharp(5), blunt(4)), 0, 0, 2, 3, api.ErrLost, api.OK},
		{6, results(sharp(1), blunt(3), sharp(4), blunt(1)), 0, 0, 0, 3, api.ErrLost, api.OK}, // not 1 and 2
		{6, results(blunt(4), sharp(2), sharp(4), sharp(5)), 0, 0, 0, 2, api.ErrLost, api.OK}, // not 0 and 3
		{6, results(sharp(2), blunt(2), sharp(2), blunt(2)), 0, 0, 0, 1, api.ErrLost, api.OK}, // not 0 and 3
		{-1, many, 0, 0, 0, 0, api.ErrRange, api.ErrRange},
		{13, nil, 0, 0, 0, 0, api.ErrRange, api.ErrRange},
		{smallest, nil, 0, 0, 0, 0, api.ErrRange, api.ErrRange},
		{greatest, results(sharp(1)), 0, 0, 0, 0, api.ErrRange, api.ErrRange},
		{6, many, 0, 0, 0, 0, api.ErrMany, api.ErrMany},
		{6, many[1:], 0, 0, 0, 0, api.ErrNone, api.ErrNone},
		{0, results(sharp(1)), 0, 0, 0, 0, api.ErrNone, api.ErrNone},
		{6, results(sharp(3), blunt(3), blunt(7)), 0, 0, 0, 0, api.ErrNone, api.ErrNone},
		{6, results(sharp(0)), 0, 0, 0, 0, api.ErrNone, api.ErrNone},
		{6, results(blunt(smallest)), 0, 0, 0, 0, api.ErrNone, api.ErrNone},
		{6, results(blunt(greatest)), 0, 0, 0, 0, api.ErrNone, api.ErrNone},
	} {
		low, high, e := trial.Known(x.levels, x.l)
		if low != x.low || high != x.high || e != x.known {
			t.Errorf("Known %d: %d and %d with error %d", i, low, high, e)
		}
		a, b, e := trial.Why(x.levels, x.l)
		if a != x.a || b != x.b || e != x.why {
			t.Errorf("Why %d: %d and %d with error %d", i, a, b, e)
		}
	}
}

func TestKnownWhyOfAllResults(t *testing.T) { // P4.9, P4.16
	for levels := range 5 {
		lists := [][]trial.Result{nil}
		for range 4 {
			var longer [][]trial.Result
			for _, l := range lists {
				wantKnown(t, levels, l)
				for level := 1; level <= levels; level++ {
					longer = append(longer, append(results(l...), sharp(level)), append(results(l...), blunt(level)))
				}
			}
			lists = longer
		}
	}
}

func TestKnownWhyOfRandomResults(t *testing.T) { // P4.9, P4.16
	r := newRandom()
	for range 3000 {
		levels, number := r.IntN(trial.MaxLevels+1), r.IntN(trial.MaxResults+1)
		wantKnown(t, levels, randomResults(r, levels, number))
		wantKnown(t, levels, agreeing(r, levels, number))
	}
}

// wantKnown compares Known and Why with what results say.
func wantKnown(t *testing.T, levels int, l []trial.Result) {
	t.Helper()
	all := allowed(levels, l)
	i, j, found := firstPair(l)
	if found == (len(all) > 0) {
		t.Errorf("contradiction %v, and %d hardnesses are allowed", found, len(all))
	}
	low, high, e := trial.Known(levels, l)
	a, b, f := trial.Why(levels, l)
	if found {
		wantTwo(t, "Known", low, high, e, 0, 0, api.ErrLost)
		wantTwo(t, "Why", a, b, f, i, j, api.OK)
	} else {
		wantTwo(t, "Known", low, high, e, all[0], all[len(all)-1], api.OK)
		wantTwo(t, "Why", a, b, f, 0, 0, api.ErrClash)
	}
	if t.Failed() {
		t.Fatalf("%d levels, results %v", levels, l)
	}
}
