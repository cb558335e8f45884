package prop_test

import (
	"testing"

	"novaculite/api"
	"novaculite/prop"
)

// Each test of this file is a row of the chapter's table of examples.

func TestExampleStandsTips(t *testing.T) {
	for _, x := range []struct {
		name  string
		pile  []prop.Stone
		wants bool
	}{
		{"P", pileP(), true},
		{"Q", pileQ(), false},
		{"R", pileR(), true},
	} {
		is, e := prop.Stands(x.pile)
		wantValue(t, "Stands of "+x.name, is, e, x.wants, api.OK)
	}
	level, e := prop.Tips(pileP())
	wantValue(t, "Tips of P", level, e, 0, api.ErrClash)
	level, e = prop.Tips(pileQ())
	wantValue(t, "Tips of Q", level, e, 0, api.OK)
}

func TestExampleWorstMoment(t *testing.T) {
	for _, x := range []struct {
		name        string
		level, side int
		want        []int
		e           api.Errno
	}{
		{"0 and 1", 0, 1, list(3, 4), api.OK},
		{"1 and -1", 1, -1, list(3, 1), api.OK},
		{"0 and -1", 0, -1, nil, api.ErrOpen},
		{"2 and 1", 2, 1, nil, api.ErrNone},
	} {
		truth, e := prop.Worst(pileQ(), x.level, x.side)
		wantList(t, "Worst of Q: "+x.name, truth, e, x.want, x.e)
	}
	moment, e := prop.Moment(pileQ(), list(3, 4), 0, 1)
	wantValue(t, "Moment of Q with 3, 4: 0 and 1", moment, e, 2, api.OK)
	moment, e = prop.Moment(pileQ(), list(3, 4), 1, 1)
	wantValue(t, "Moment of Q with 3, 4: 1 and 1", moment, e, 0, api.OK)
	moment, e = prop.Moment(pileQ(), list(3, 5), 0, 1)
	wantValue(t, "Moment of Q with 3, 5: 0 and 1", moment, e, 0, api.ErrRange)
}

func TestExampleProves(t *testing.T) {
	wantErrno(t, "Proves of Q: 3, 4 at 0", prop.Proves(pileQ(), list(3, 4), 0), api.OK)
	wantErrno(t, "Proves of Q: 3, 1 at 0", prop.Proves(pileQ(), list(3, 1), 0), api.ErrProof)
	wantErrno(t, "Proves of Q: 3 at 0", prop.Proves(pileQ(), list(3), 0), api.ErrShape)
	wantErrno(t, "Proves of Q: 3, 4 at 2", prop.Proves(pileQ(), list(3, 4), 2), api.ErrNone)
}

func TestExampleSpanSlack(t *testing.T) {
	low, high, e := prop.Span(pileQ(), 0)
	wantSpan(t, "Span of Q: 0", low, high, e, frac(-1, 1), frac(2, 7), api.OK)
	low, high, e = prop.Span(pileQ(), 1)
	wantSpan(t, "Span of Q: 1", low, high, e, frac(2, 1), frac(2, 1), api.OK)
	for _, x := range []struct {
		name  string
		pile  []prop.Stone
		stone int
		e     api.Errno
	}{
		{"P: 0", pileP(), 0, api.OK},
		{"P: 1", pileP(), 1, api.OK},
		{"Q: 0", pileQ(), 0, api.ErrLost},
		{"R: 2", pileR(), 2, api.ErrNone},
	} {
		far, e := prop.Slack(x.pile, x.stone)
		wantValue(t, "Slack of "+x.name, far, e, 0, x.e)
	}
}

func TestExampleLayKnow(t *testing.T) {
	k, e := prop.Lay(pileP())
	wantValue(t, "Lay of P", k, e, 0, api.ErrClash)
	k, e = prop.Lay(pileQ())
	wantValue(t, "Lay of Q", k, e, 2, api.OK)
	k, e = prop.Lay(pileR())
	wantValue(t, "Lay of R", k, e, 1, api.OK)
	for _, x := range []struct {
		name               string
		stone, least, most int
		want               []prop.Stone
		e                  api.Errno
	}{
		{"1, 1, 2", 1, 1, 2, pileP(), api.OK},
		{"1, 2, 1", 1, 2, 1, nil, api.ErrOrder},
		{"1, 1, 5", 1, 1, 5, nil, api.ErrRange},
		{"2, 1, 1", 2, 1, 1, nil, api.ErrNone},
	} {
		known, e := prop.Know(pileQ(), x.stone, x.least, x.most)
		wantList(t, "Know of Q: "+x.name, known, e, x.want, x.e)
	}
}

func TestExampleReach(t *testing.T) {
	reach, e := prop.Farthest(list(4, 4), list(1, 1), 1)
	wantValue(t, "Farthest of 4, 4 with 1, 1: 1", reach, e, frac(6, 1), api.OK)
	reach, e = prop.Farthest(list(4, 4), list(1, 1), 0)
	wantValue(t, "Farthest of 4, 4 with 1, 1: 0", reach, e, frac(6, 1), api.OK)
	reach, e = prop.Farthest(list(4, 4), list(1, 1), 2)
	wantValue(t, "Farthest of 4, 4 with 1, 1: 2", reach, e, frac(0, 0), api.ErrNone)
	centres, e := prop.Centres(list(4, 4), list(1, 1))
	wantList(t, "Centres of 4, 4 with 1, 1", centres, e, []prop.Frac{frac(-2, 1), frac(2, 1)}, api.OK)
	order, reach, e := prop.Best(list(4, 4), list(1, 3))
	wantBest(t, "Best of 4, 4 with 1, 3", order, reach, e, list(1, 0), frac(7, 1), api.OK)
	sum, e := prop.Harmonic(4)
	wantValue(t, "Harmonic of 4", sum, e, frac(25, 12), api.OK)
	sum, e = prop.Harmonic(0)
	wantValue(t, "Harmonic of 0", sum, e, frac(0, 0), api.ErrRange)
}

func TestExampleCheckLoads(t *testing.T) {
	wantErrno(t, "Check of no stones", prop.Check(nil), api.ErrEmpty)
	wantErrno(t, "Check of 0 0 1 1", prop.Check(pile(0, 0, 1, 1)), api.ErrRange)
	wantErrno(t, "Check of 1 0 2 1", prop.Check(pile(1, 0, 2, 1)), api.ErrOrder)
	wantErrno(t, "Check of 1 0 0 1", prop.Check(pile(1, 0, 0, 1)), api.ErrRange)
	wantErrno(t, "Loads of 1, 1 with 1", prop.Loads(list(1, 1), list(1)), api.ErrShape)
	wantErrno(t, "Loads of 1 with 10", prop.Loads(list(1), list(10)), api.ErrRange)
}
