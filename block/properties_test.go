package block_test

import (
	"math/rand/v2"
	"reflect"
	"slices"
	"testing"

	"novaculite/api"
	"novaculite/block"
	"novaculite/saw"
	"novaculite/seam"
)

// counted is what is counted of a block.
type counted struct{ sure, might, firm, best int }

// countedOf returns Sure, Might and Firm, and how many blanks a best cutting of the
// slab has.
func countedOf(t *testing.T, b block.Block) counted {
	t.Helper()
	sure, e := block.Sure(b)
	wantErrno(t, "Sure", e, api.OK)
	might, e := block.Might(b)
	wantErrno(t, "Might", e, api.OK)
	firm, e := block.Firm(b)
	wantErrno(t, "Firm", e, api.OK)
	best, e := saw.Most(slabOf(b))
	wantErrno(t, "Most", e, api.OK)
	return counted{sure, might, firm, best}
}

func TestOneLess(t *testing.T) { // P9.8
	seen := map[[2]int]int{}
	forTruths(t, func(_ *rand.Rand, b block.Block, truths []int) {
		n := countedOf(t, b)
		idle, _ := saw.Idle(slabOf(b))
		free := 0
		for _, truth := range truths {
			if slices.Contains(idle, truth) || slices.Contains(b.Spoiled, truth) {
				free++
			}
		}
		sure, might := n.best, n.best
		if free < len(truths) {
			sure--
		}
		if free == 0 {
			might--
		}
		wantValue(t, "Sure", n.sure, api.OK, sure, api.OK)
		wantValue(t, "Might", n.might, api.OK, might, api.OK)
		seen[[2]int{n.best - n.sure, n.best - n.might}]++
	})
	if len(seen) != 3 {
		t.Errorf("not each case was seen: %v", seen)
	}
}

func TestFirmIsOneLess(t *testing.T) { // P9.9
	seen := map[[2]int]int{}
	forTruths(t, func(_ *rand.Rand, b block.Block, truths []int) {
		n := countedOf(t, b)
		left, _ := saw.Most(slabOf(b, truths...))
		firm := n.best
		if left < n.best {
			firm--
		}
		wantValue(t, "Firm", n.firm, api.OK, firm, api.OK)
		if n.firm > n.sure {
			t.Errorf("Firm %d, Sure %d", n.firm, n.sure)
		}
		plan, e := block.Plan(b)
		wantErrno(t, "Plan", e, api.OK)
		number, e := block.Kept(b, plan)
		wantValue(t, "Kept of Plan", number, e, n.firm, api.OK)
		seen[[2]int{n.best - n.firm, n.best - n.sure}]++
	})
	if len(seen) != 3 {
		t.Errorf("not each case was seen: %v", seen)
	}
}

func TestBoundIsAProof(t *testing.T) { // P9.10
	forTruths(t, func(r *rand.Rand, b block.Block, truths []int) {
		sure, _ := block.Sure(b)
		cell, bar, e := block.Bound(b)
		wantErrno(t, "Bound", e, api.OK)
		wantErrno(t, "Proves", block.Proves(b, sure, cell, bar), api.OK)
		bars := [][]int{bar}
		if b.Size < 3 {
			bars = sets(b.Size * b.Size)
		}
		for _, truth := range truths {
			other, _ := saw.Bar(slabOf(b, truth))
			for _, bar := range append(bars, other, anyOf(r, sets(9))) {
				if block.Proves(b, sure-1, truth, bar) == api.OK {
					t.Errorf("Proves: %d at %d by %v", sure-1, truth, bar)
				}
			}
		}
	})
}

// afterOf returns the blocks with one gallery more, or with its opposite, that have
// a truth.
func afterOf(b block.Block, g seam.Gallery) []block.Block {
	return slices.DeleteFunc([]block.Block{with(b, g), with(b, opposite(g))}, func(after block.Block) bool {
		truths, e := block.Truths(after)
		return e != api.OK || len(truths) == 0
	})
}

func TestOneGalleryMore(t *testing.T) { // P9.11
	gains := map[int]int{}
	forTruths(t, func(r *rand.Rand, b block.Block, truths []int) {
		n := countedOf(t, b)
		for _, g := range lines(r, b.Size, 3) {
			gain, e := block.Gain(b, g)
			wantErrno(t, "Gain", e, api.OK)
			gains[gain]++
			if len(b.Galleries) == seam.MaxGalleries {
				continue
			}
			least := greatest
			for _, after := range afterOf(b, g) {
				left, _ := block.Truths(after)
				for _, truth := range left {
					if !slices.Contains(truths, truth) {
						t.Errorf("%d was no truth before", truth)
					}
				}
				more := countedOf(t, after)
				if more.sure < n.sure || more.firm < n.firm || more.might > n.might {
					t.Errorf("%v after %v: %v, before %v", b, g, more, n)
				}
				least = min(least, more.firm-n.firm)
			}
			wantValue(t, "Gain", gain, e, least, api.OK)
		}
	})
	if len(gains) != 2 || gains[0] == 0 || gains[1] == 0 {
		t.Errorf("gains: %v", gains)
	}
}

// isOneLess reports whether after each answer of a gallery, that occurs, fewer
// galleries are enough than a number.
func isOneLess(b block.Block, g seam.Gallery, offered []seam.Gallery, blanks, than int) bool {
	for _, after := range afterOf(b, g) {
		number, e := block.Questions(after, offered, blanks)
		if e != api.OK || number >= than {
			return false
		}
	}
	return true
}

func TestQuestionsStepByStep(t *testing.T) { // P9.12
	seen := map[int]int{}
	forTruths(t, func(r *rand.Rand, b block.Block, _ []int) {
		if len(b.Galleries) == seam.MaxGalleries {
			return
		}
		n := countedOf(t, b)
		offered := lines(r, b.Size, block.MaxOffered)
		for blanks := range 10 {
			number, e := block.Questions(b, offered, blanks)
			if blanks > n.sure {
				wantValue(t, "Questions of more than sure", number, e, 0, api.ErrClash)
			}
			if e != api.OK {
				wantErrno(t, "Questions", e, api.ErrClash)
				continue
			}
			seen[number]++
			wantValue(t, "none is asked", number == 0, e, n.firm >= blanks, api.OK)
			one := func(g seam.Gallery) bool { return isOneLess(b, g, offered, blanks, number) }
			two := func(g seam.Gallery) bool { return isOneLess(b, g, offered, blanks, number-1) }
			if number > 0 && (!slices.ContainsFunc(offered, one) || slices.ContainsFunc(offered, two)) {
				t.Errorf("Questions: %d for %d by %v", number, blanks, offered)
			}
		}
	})
	if seen[0] == 0 || seen[1] == 0 || seen[2] == 0 {
		t.Errorf("not each number was seen: %v", seen)
	}
}

// exchanged returns a block, or a gallery, after x and y were exchanged.
func exchanged(b block.Block) block.Block {
	b = clone(b)
	for i, c := range b.Spoiled {
		b.Spoiled[i] = c%b.Size*b.Size + c/b.Size
	}
	slices.Sort(b.Spoiled)
	b.Galleries = exchangedOnes(b.Galleries)
	return b
}

func exchangedOnes(all []seam.Gallery) []seam.Gallery {
	other := slices.Clone(all)
	for i, g := range all {
		other[i] = seam.Gallery{A: g.B, B: g.A, C: g.C}
	}
	return other
}

func TestExchanged(t *testing.T) { // P9.13
	forTruths(t, func(r *rand.Rand, b block.Block, _ []int) {
		other := exchanged(b)
		n := countedOf(t, b)
		wantValue(t, "Sure, Might, Firm", countedOf(t, other), api.OK, n, api.OK)
		offered := lines(r, b.Size, block.MaxOffered)
		turned := exchangedOnes(offered)
		for i, g := range offered {
			want, _ := block.Gain(b, g)
			gain, e := block.Gain(other, turned[i])
			wantValue(t, "Gain", gain, e, want, api.OK)
		}
		for blanks := n.firm; blanks <= n.sure+1; blanks++ {
			want, wrong := block.Questions(b, offered, blanks)
			number, e := block.Questions(other, turned, blanks)
			wantValue(t, "Questions", number, e, want, wrong)
		}
	})
}

func TestTruthsAndSoundAreAllGoodCells(t *testing.T) { // P9.14
	forBlocks(t, func(_ *rand.Rand, b block.Block) {
		truths, e := block.Truths(b)
		wantErrno(t, "Truths", e, api.OK)
		sound, e := block.Sound(b)
		wantErrno(t, "Sound", e, api.OK)
		good, _ := saw.Cells(slabOf(b))
		both := slices.DeleteFunc(slices.Concat(truths, sound), func(cell int) bool { return slices.Contains(b.Spoiled, cell) })
		slices.Sort(both)
		wantList(t, "Truths and Sound", both, e, good, api.OK)
	})
}

// told is the arguments of all functions.
type told struct {
	b            block.Block
	cell, blanks int
	cutting      [][2]int
	bar          []int
	offered      []seam.Gallery
}

func (a told) clone() told {
	a.b = clone(a.b)
	a.cutting, a.bar, a.offered = slices.Clone(a.cutting), slices.Clone(a.bar), slices.Clone(a.offered)
	return a
}

// answers returns what all functions return for some arguments.
func answers(a told) []any {
	var all []any
	add := func(result any, e api.Errno) { all = append(all, result, e) }
	add(nil, block.Check(a.b))
	add(block.Truths(a.b))
	add(block.Sound(a.b))
	add(block.Sure(a.b))
	add(block.Might(a.b))
	add(block.Worst(a.b))
	add(block.Cut(a.b, a.cell))
	add(block.Kept(a.b, a.cutting))
	add(block.Firm(a.b))
	add(block.Plan(a.b))
	add(nil, block.Promise(a.b, a.blanks))
	cell, bar, e := block.Bound(a.b)
	add([]any{cell, bar}, e)
	add(nil, block.Proves(a.b, a.blanks, a.cell, a.bar))
	for _, g := range a.offered {
		add(block.Gain(a.b, g))
	}
	add(block.Ask(a.b, a.offered))
	add(block.Questions(a.b, a.offered, a.blanks))
	return all
}

func TestArgumentsStayAndAnswersRepeat(t *testing.T) { // P1, R4
	r := newRandom()
	for range 1000 {
		b := randomBlock(r, between(r, 1, block.MaxSize))
		a := told{b, r.IntN(16), r.IntN(9), anyOf(r, cuttingsOf(b)), anyOf(r, sets(9)), lines(r, b.Size, r.IntN(7))}
		if r.IntN(2) == 0 {
			a.b = spoilBlock(r, b)
			a.cutting = spoilCutting(r, a.cutting)
			a.bar = append(a.bar, anyOf(r, edges()))
			a.offered = append(a.offered, seam.Gallery{C: r.IntN(3)})
			a.blanks, a.cell = anyOf(r, edges()), anyOf(r, edges())
		}
		before := a.clone()
		first := answers(a)
		if !reflect.DeepEqual(a, before) {
			t.Fatalf("arguments were changed: %v", before)
		}
		if !reflect.DeepEqual(first, answers(a)) {
			t.Fatalf("other answers: %v", a)
		}
	}
}

func TestResultsAreOwnMemory(t *testing.T) { // R4
	made := func() block.Block { return stone(4, list(5), 1, 0, 2, -1, 0, -2) }
	b := made()
	spoil := func(l []int) {
		whole := l[:cap(l)]
		for i := range whole {
			whole[i] = 99
		}
	}
	spoilBlanks := func(blanks [][2]int, _ api.Errno) {
		whole := blanks[:cap(blanks)]
		for i := range whole {
			whole[i] = [2]int{99, 99}
		}
	}
	for range 2 {
		want := answers(told{b: b, cell: 2})
		truths, _ := block.Truths(b)
		spoil(truths)
		sound, _ := block.Sound(b)
		spoil(sound)
		_, bar, _ := block.Bound(b)
		spoil(bar)
		spoilBlanks(block.Cut(b, 2))
		spoilBlanks(block.Plan(b))
		if !reflect.DeepEqual(b, made()) {
			t.Fatalf("a result shares memory with %v", b)
		}
		if !reflect.DeepEqual(want, answers(told{b: b, cell: 2})) {
			t.Fatalf("other answers: %v", b)
		}
	}
}
