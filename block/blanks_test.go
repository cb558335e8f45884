package block_test

import (
	"math/rand/v2"
	"slices"
	"testing"

	"novaculite/api"
	"novaculite/block"
	"novaculite/saw"
)

func TestSure(t *testing.T) { // P9.2
	seen := map[int]int{}
	forTruths(t, func(_ *rand.Rand, b block.Block, truths []int) {
		sure, might, worst := plainOf(b).sure()
		number, e := block.Sure(b)
		wantValue(t, "Sure", number, e, sure, api.OK)
		number, e = block.Might(b)
		wantValue(t, "Might", number, e, might, api.OK)
		number, e = block.Worst(b)
		wantValue(t, "Worst", number, e, worst, api.OK)
		if worst != truths[0] {
			seen[might-sure]++
		}
	})
	if seen[1] == 0 {
		t.Error("no truth was worse than the first one")
	}
}

func TestCut(t *testing.T) { // P9.2
	forTruths(t, func(_ *rand.Rand, b block.Block, truths []int) {
		p := plainOf(b)
		for _, cell := range append(edges(), upTo(16)...) {
			blanks, e := block.Cut(b, cell)
			if slices.Contains(truths, cell) {
				wantList(t, "Cut", blanks, e, p.cut(cell), api.OK)
			} else {
				wantList(t, "Cut", blanks, e, nil, api.ErrNone)
			}
		}
	})
}

func TestKept(t *testing.T) { // P9.3
	forTruths(t, func(r *rand.Rand, b block.Block, truths []int) {
		for _, c := range someOf(r, cuttingsOf(b), 200) {
			number, e := block.Kept(b, c)
			wantValue(t, "Kept", number, e, kept(c, truths), api.OK)
		}
	})
}

// spoilCutting puts something wrong into most cuttings.
func spoilCutting(r *rand.Rand, cutting [][2]int) [][2]int {
	other := [2]int{anyOf(r, edges()), anyOf(r, edges())}
	blanks := append(slices.Clone(cutting), other)
	i := r.IntN(len(blanks))
	switch r.IntN(5) {
	case 0:
		blanks[i][0], blanks[i][1] = blanks[i][1], blanks[i][0]
	case 1:
		blanks[i] = other
	case 2:
		blanks[i] = anyOf(r, blanks)
	case 3:
		blanks[i][r.IntN(2)] = anyOf(r, edges())
	}
	return blanks
}

func TestErrorsOfCuttings(t *testing.T) { // P9.3
	seen := map[api.Errno]int{}
	forTruths(t, func(r *rand.Rand, b block.Block, truths []int) {
		all := cuttingsOf(b)
		open := cuttingsOf(stone(b.Size, nil))
		for range 20 {
			for _, blanks := range [][][2]int{spoilCutting(r, anyOf(r, all)), anyOf(r, open)} {
				wrong := saw.Valid(slabOf(b), blanks)
				seen[wrong]++
				want := 0
				if wrong == api.OK {
					want = kept(blanks, truths)
				}
				number, e := block.Kept(b, blanks)
				wantValue(t, "Kept", number, e, want, wrong)
			}
		}
	})
	if len(seen) != 6 {
		t.Errorf("not each error was seen: %v", seen)
	}
}

func TestKeptOfSlabs(t *testing.T) { // P9.3
	b := stone(3, list(8), 1, 0, 0)
	for _, x := range []struct {
		name   string
		blanks [][2]int
		want   int
		e      api.Errno
	}{
		{"no blanks", nil, 0, api.OK},
		{"blanks with truths", cutting(0, 1, 3, 4, 6, 7), 2, api.OK},
		{"a blank with two truths", cutting(0, 3, 1, 2, 4, 5, 6, 7), 3, api.OK},
		{"blanks without truths", cutting(1, 2, 4, 5), 2, api.OK},
		{"no cell", cutting(0, 9), 0, api.ErrNone},
		{"no neighbours", cutting(0, 2), 0, api.ErrShape},
		{"another order", cutting(3, 6, 0, 1), 0, api.ErrOrder},
		{"a spoiled cell", cutting(5, 8), 0, api.ErrClash},
		{"a cell twice", cutting(0, 1, 1, 2), 0, api.ErrTwice},
		{"a cell twice before a spoiled one", cutting(0, 1, 1, 2, 5, 8), 0, api.ErrTwice},
	} {
		number, e := block.Kept(b, x.blanks)
		wantValue(t, "Kept of "+x.name, number, e, x.want, x.e)
	}
}

func TestFirmAndPlan(t *testing.T) { // P9.3
	forTruths(t, func(_ *rand.Rand, b block.Block, truths []int) {
		p := plainOf(b)
		number, e := block.Firm(b)
		wantValue(t, "Firm", number, e, p.firm(truths), api.OK)
		blanks, e := block.Plan(b)
		wantList(t, "Plan", blanks, e, p.plan(), api.OK)
	})
}

func TestPromise(t *testing.T) { // P9.4
	seen := map[api.Errno]int{}
	forTruths(t, func(_ *rand.Rand, b block.Block, _ []int) {
		sure, might, _ := plainOf(b).sure()
		for _, blanks := range edges() {
			e := block.Promise(b, blanks)
			seen[e]++
			switch {
			case blanks < 0:
				wantErrno(t, "Promise of less than none", e, api.ErrRange)
			case blanks > might:
				wantErrno(t, "Promise of too many", e, api.ErrOver)
			case blanks > sure:
				wantErrno(t, "Promise of what is not sure", e, api.ErrOpen)
			default:
				wantErrno(t, "Promise", e, api.OK)
			}
		}
	})
	if len(seen) != 4 {
		t.Errorf("not each error was seen: %v", seen)
	}
}

func TestBound(t *testing.T) { // P9.5
	forTruths(t, func(_ *rand.Rand, b block.Block, _ []int) {
		_, _, worst := plainOf(b).sure()
		want, _ := saw.Bar(slabOf(b, worst))
		cell, bar, e := block.Bound(b)
		wantValue(t, "Bound", cell, e, worst, api.OK)
		wantList(t, "Bound", bar, e, want, api.OK)
	})
}

func TestProves(t *testing.T) { // P9.5
	seen := map[api.Errno]int{}
	forTruths(t, func(r *rand.Rand, b block.Block, truths []int) {
		_, bar, _ := block.Bound(b)
		bars := [][]int{bar, append(slices.Clone(bar), anyOf(r, edges())), anyOf(r, sets(6)), list(anyOf(r, edges()))}
		for _, cell := range append(edges(), anyOf(r, truths), anyOf(r, upTo(16))) {
			for _, bar := range bars {
				blanks := anyOf(r, append(edges(), len(bar), len(bar)-1))
				want := api.ErrNone
				if slices.Contains(truths, cell) {
					want = saw.Proves(slabOf(b, cell), blanks, bar)
					seen[want]++
				}
				wantErrno(t, "Proves", block.Proves(b, blanks, cell, bar), want)
			}
		}
	})
	if len(seen) != 7 {
		t.Errorf("not each error was seen: %v", seen)
	}
}

func TestErrorsOfProofs(t *testing.T) { // P9.5
	for _, x := range []struct {
		name         string
		blanks, cell int
		bar          []int
		e            api.Errno
	}{
		{"more blanks than cells", 4, 3, list(1, 5, 7), api.OK},
		{"the greatest number", greatest, 3, list(1, 5, 7), api.OK},
		{"no truth before a number below 0", -1, 1, list(9), api.ErrNone},
		{"no cell", 3, 9, list(1, 5, 7), api.ErrNone},
		{"the greatest int", 3, greatest, list(1, 5, 7), api.ErrNone},
		{"the smallest int", 3, smallest, list(1, 5, 7), api.ErrNone},
		{"a number below 0", -1, 3, list(9), api.ErrRange},
		{"no cell in the bar", 3, 3, list(1, 5, 9), api.ErrNone},
		{"another order", 3, 3, list(5, 1, 7), api.ErrOrder},
		{"the truth in the bar", 4, 3, list(1, 3, 5, 7), api.ErrClash},
		{"no bar", 2, 3, list(1, 5), api.ErrOpen},
		{"no bar at another truth", 3, 0, list(1, 5, 7), api.ErrOpen},
		{"too few blanks", 2, 3, list(1, 5, 7), api.ErrProof},
	} {
		wantErrno(t, "Proves of B: "+x.name, block.Proves(blockB(), x.blanks, x.cell, x.bar), x.e)
	}
}
