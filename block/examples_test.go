package block_test

import (
	"testing"

	"novaculite/api"
	"novaculite/block"
	"novaculite/seam"
)

// Each test of this file is a row of the chapter's table of examples.

func TestExampleTruths(t *testing.T) {
	truths, e := block.Truths(blockB())
	wantList(t, "Truths of B", truths, e, list(0, 3, 6), api.OK)
	truths, e = block.Truths(blockE())
	wantList(t, "Truths of E", truths, e, list(0, 4, 8), api.OK)
	truths, e = block.Truths(blockF())
	wantList(t, "Truths of F", truths, e, list(0, 4), api.OK)
	truths, e = block.Truths(blockK())
	wantList(t, "Truths of K", truths, e, nil, api.OK)
	sound, e := block.Sound(blockB())
	wantList(t, "Sound of B", sound, e, list(1, 2, 4, 5, 7, 8), api.OK)
}

func TestExampleSure(t *testing.T) {
	sure, e := block.Sure(blockA())
	wantValue(t, "Sure of A", sure, e, 1, api.OK)
	sure, e = block.Sure(blockB())
	wantValue(t, "Sure of B", sure, e, 3, api.OK)
	sure, e = block.Sure(blockE())
	wantValue(t, "Sure of E", sure, e, 4, api.OK)
	sure, e = block.Sure(blockK())
	wantValue(t, "Sure of K", sure, e, 0, api.ErrLost)
	might, e := block.Might(blockB())
	wantValue(t, "Might of B", might, e, 4, api.OK)
	worst, e := block.Worst(blockB())
	wantValue(t, "Worst of B", worst, e, 3, api.OK)
	worst, e = block.Worst(blockE())
	wantValue(t, "Worst of E", worst, e, 0, api.OK)
}

func TestExampleCutKept(t *testing.T) {
	blanks, e := block.Cut(blockB(), 0)
	wantList(t, "Cut of B: 0", blanks, e, cutting(1, 2, 3, 4, 5, 8, 6, 7), api.OK)
	blanks, e = block.Cut(blockB(), 1)
	wantList(t, "Cut of B: 1", blanks, e, nil, api.ErrNone)
	kept, e := block.Kept(blockA(), cutting(0, 1, 2, 3))
	wantValue(t, "Kept of A: 0 1, 2 3", kept, e, 1, api.OK)
	kept, e = block.Kept(blockA(), cutting(0, 1))
	wantValue(t, "Kept of A: 0 1", kept, e, 0, api.OK)
	kept, e = block.Kept(blockA(), cutting(1, 0))
	wantValue(t, "Kept of A: 1 0", kept, e, 0, api.ErrShape)
	firm, e := block.Firm(blockA())
	wantValue(t, "Firm of A", firm, e, 1, api.OK)
	firm, e = block.Firm(blockE())
	wantValue(t, "Firm of E", firm, e, 3, api.OK)
	firm, e = block.Firm(blockF())
	wantValue(t, "Firm of F", firm, e, 3, api.OK)
}

func TestExamplePlan(t *testing.T) {
	plan, e := block.Plan(blockA())
	wantList(t, "Plan of A", plan, e, cutting(0, 1, 2, 3), api.OK)
	plan, e = block.Plan(blockB())
	wantList(t, "Plan of B", plan, e, cutting(0, 1, 2, 5, 3, 4, 6, 7), api.OK)
}

func TestExamplePromiseBound(t *testing.T) {
	wantErrno(t, "Promise of B: 3", block.Promise(blockB(), 3), api.OK)
	wantErrno(t, "Promise of B: 4", block.Promise(blockB(), 4), api.ErrOpen)
	wantErrno(t, "Promise of B: 5", block.Promise(blockB(), 5), api.ErrOver)
	wantErrno(t, "Promise of B: -1", block.Promise(blockB(), -1), api.ErrRange)
	cell, bar, e := block.Bound(blockB())
	wantValue(t, "Bound of B", cell, e, 3, api.OK)
	wantList(t, "Bound of B", bar, e, list(1, 5, 7), api.OK)
}

func TestExampleProves(t *testing.T) {
	wantErrno(t, "Proves of B: 3 at 3 by 1, 5, 7", block.Proves(blockB(), 3, 3, list(1, 5, 7)), api.OK)
	wantErrno(t, "Proves of B: 2 at 3 by 1, 5, 7", block.Proves(blockB(), 2, 3, list(1, 5, 7)), api.ErrProof)
	wantErrno(t, "Proves of B: 3 at 1 by 1, 5, 7", block.Proves(blockB(), 3, 1, list(1, 5, 7)), api.ErrNone)
	wantErrno(t, "Proves of B: 3 at 3 by 1, 5", block.Proves(blockB(), 3, 3, list(1, 5)), api.ErrOpen)
}

func TestExampleGainAsk(t *testing.T) {
	gain, e := block.Gain(blockF(), seam.Gallery{A: 1})
	wantValue(t, "Gain of F: 1 0 0", gain, e, 1, api.OK)
	gain, e = block.Gain(blockE(), seam.Gallery{A: 1})
	wantValue(t, "Gain of E: 1 0 0", gain, e, 0, api.OK)
	gain, e = block.Gain(blockE(), seam.Gallery{C: 1})
	wantValue(t, "Gain of E: 0 0 1", gain, e, 0, api.ErrShape)
	best, e := block.Ask(blockE(), galleries(1, 0, 0, 1, 0, 1))
	wantValue(t, "Ask of E: 1 0 0, 1 0 1", best, e, 0, api.OK)
	best, e = block.Ask(blockF(), galleries(1, 0, 1, 1, 0, 0))
	wantValue(t, "Ask of F: 1 0 1, 1 0 0", best, e, 1, api.OK)
	best, e = block.Ask(blockF(), nil)
	wantValue(t, "Ask of F: none", best, e, 0, api.ErrEmpty)
}

func TestExampleQuestions(t *testing.T) {
	both := galleries(1, 0, 0, 1, 0, 1)
	number, e := block.Questions(blockE(), both, 3)
	wantValue(t, "Questions of E: 3", number, e, 0, api.OK)
	number, e = block.Questions(blockE(), both, 4)
	wantValue(t, "Questions of E: 4", number, e, 2, api.OK)
	number, e = block.Questions(blockE(), both, 5)
	wantValue(t, "Questions of E: 5", number, e, 0, api.ErrClash)
	number, e = block.Questions(blockF(), galleries(1, 0, 0), 4)
	wantValue(t, "Questions of F by 1 0 0: 4", number, e, 1, api.OK)
	number, e = block.Questions(blockF(), nil, 4)
	wantValue(t, "Questions of F by none: 4", number, e, 0, api.ErrClash)
}

func TestExampleCheck(t *testing.T) {
	wantErrno(t, "Check of the size 5", block.Check(stone(5, nil)), api.ErrRange)
	wantErrno(t, "Check of A with 4 spoiled", block.Check(stone(2, list(4))), api.ErrNone)
	wantErrno(t, "Check of A with 1, 1 spoiled", block.Check(stone(2, list(1, 1))), api.ErrOrder)
	wantErrno(t, "Check of A with the gallery 0 0 1", block.Check(stone(2, nil, 0, 0, 1)), api.ErrShape)
}
