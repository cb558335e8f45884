package block_test

import (
	"math/rand/v2"
	"slices"
	"testing"

	"novaculite/api"
	"novaculite/block"
	"novaculite/seam"
)

func TestCheck(t *testing.T) { // P9.1
	eleven := slices.Repeat(galleries(1, 0, 0), 11)
	for _, x := range []struct {
		name string
		b    block.Block
		e    api.Errno
	}{
		{"the least block", stone(1, nil), api.OK},
		{"the greatest block", block.Block{Size: 4, Spoiled: upTo(16), Galleries: eleven[:10]}, api.OK},
		{"a block without truths", blockK(), api.OK},
		{"no size", stone(0, nil), api.ErrRange},
		{"nothing at all", block.Block{}, api.ErrRange},
		{"the size 5", stone(5, nil), api.ErrRange},
		{"the size -1", stone(-1, nil), api.ErrRange},
		{"the smallest size", stone(smallest, nil), api.ErrRange},
		{"the greatest size", stone(greatest, nil), api.ErrRange},
		{"a size whose square is not an int", stone(1<<32, nil), api.ErrRange},
		{"a size before a cell", stone(5, list(25), 0, 0, 0), api.ErrRange},
		{"a cell too great", stone(3, list(9)), api.ErrNone},
		{"a cell too small", stone(3, list(-1)), api.ErrNone},
		{"the greatest int", stone(3, list(0, greatest)), api.ErrNone},
		{"the smallest int", stone(3, list(0, smallest)), api.ErrNone},
		{"no cell, twice", stone(3, list(9, 9)), api.ErrNone},
		{"a cell twice", stone(3, list(2, 2)), api.ErrOrder},
		{"a smaller cell", stone(3, list(2, 1)), api.ErrOrder},
		{"a smaller cell before no cell", stone(3, list(2, 1, 9)), api.ErrOrder},
		{"no cell before a smaller cell", stone(3, list(2, 9, 1)), api.ErrNone},
		{"a cell before a gallery", stone(3, list(9), 10, 0, 0), api.ErrNone},
		{"an order before a gallery", stone(3, list(2, 1), 0, 0, 0), api.ErrOrder},
		{"eleven galleries", block.Block{Size: 2, Galleries: eleven}, api.ErrMany},
		{"eleven wrong galleries", block.Block{Size: 2, Galleries: make([]seam.Gallery, 11)}, api.ErrMany},
		{"a cell before eleven galleries", block.Block{Size: 2, Spoiled: list(4), Galleries: eleven}, api.ErrNone},
		{"a slope too great", stone(2, nil, 0, 10, 0), api.ErrRange},
		{"a slope too small", stone(2, nil, -10, 0, 0), api.ErrRange},
		{"a right too great", stone(2, nil, 1, 0, 201), api.ErrRange},
		{"a right too small", stone(2, nil, 1, 0, -202), api.ErrRange},
		{"no slope", stone(2, nil, 1, 0, 0, 0, 0, 1), api.ErrShape},
		{"no slope, and a right too great", stone(2, nil, 0, 0, 201), api.ErrRange},
		{"no slope before a slope too great", stone(2, nil, 0, 0, 0, 10, 0, 0), api.ErrShape},
	} {
		wantErrno(t, "Check of "+x.name, block.Check(x.b), x.e)
		wantErrno(t, "the reference of "+x.name, checkOf(x.b), x.e)
	}
}

func TestTruthsAndSound(t *testing.T) { // P9.1
	none := 0
	forBlocks(t, func(_ *rand.Rand, b block.Block) {
		wantErrno(t, "Check", block.Check(b), api.OK)
		truths, e := block.Truths(b)
		wantList(t, "Truths", truths, e, truthsOf(b), api.OK)
		sound, e := block.Sound(b)
		wantList(t, "Sound", sound, e, soundOf(b), api.OK)
		if len(truths) == 0 {
			none++
			wantErrorOfBlock(t, b, api.ErrLost)
		}
	})
	if none == 0 {
		t.Error("each block had a truth")
	}
}

func TestGalleriesOfAnySize(t *testing.T) { // P9.1
	for _, b := range []block.Block{stone(4, list(3)), stone(3, nil)} {
		for a := -9; a <= 9; a++ {
			for c := -54; c <= 54; c++ {
				g := seam.Gallery{A: a, B: 9, C: c}
				truths, e := block.Truths(with(b, g))
				wantList(t, "Truths", truths, e, truthsOf(with(b, g)), api.OK)
				sound, e := block.Sound(with(b, g))
				wantList(t, "Sound", sound, e, soundOf(with(b, g)), api.OK)
				if t.Failed() {
					t.Fatalf("block %v with %v", b, g)
				}
			}
		}
	}
	for _, c := range list(-201, 200) {
		truths, e := block.Truths(stone(1, nil, 9, -9, c))
		wantList(t, "Truths", truths, e, upTo(max(0, min(c, 1))), api.OK)
	}
}

// spoilBlock puts something wrong into most blocks.
func spoilBlock(r *rand.Rand, b block.Block) block.Block {
	wrong := seam.Gallery{A: anyOf(r, edges()), B: anyOf(r, edges()), C: anyOf(r, append(edges(), 200, 201, -201, -202))}
	switch r.IntN(8) {
	case 0:
		b.Size = anyOf(r, edges())
	case 1:
		b.Spoiled = append(b.Spoiled, anyOf(r, edges()))
	case 2:
		b.Spoiled = append(list(anyOf(r, edges())), b.Spoiled...)
	case 3:
		b.Galleries = append(b.Galleries, wrong)
	case 4:
		b.Galleries = append([]seam.Gallery{wrong}, b.Galleries...)
	case 5:
		b.Galleries = append(b.Galleries, seam.Gallery{C: r.IntN(3)})
	case 6:
		b.Galleries = slices.Repeat(append(b.Galleries, line(r, 3)), 11)
	}
	if r.IntN(4) == 0 {
		return spoilBlock(r, b)
	}
	return b
}

func TestErrorsOfBlocksComeFirst(t *testing.T) { // P9.1
	r := newRandom()
	seen := map[api.Errno]int{}
	for range 20000 {
		b := spoilBlock(r, randomBlock(r, between(r, 1, 4)))
		wrong := checkOf(b)
		seen[wrong]++
		wantErrno(t, "Check", block.Check(b), wrong)
		if wrong != api.OK {
			truths, e := block.Truths(b)
			wantList(t, "Truths", truths, e, nil, wrong)
			sound, e := block.Sound(b)
			wantList(t, "Sound", sound, e, nil, wrong)
			wantErrorOfBlock(t, b, wrong)
		}
		if t.Failed() {
			t.Fatalf("block %v", b)
		}
	}
	if len(seen) != 6 {
		t.Errorf("not each error was seen: %v", seen)
	}
}

// wantErrorOfBlock checks that all functions that need a truth return the error of
// a block, whatever else is wrong.
func wantErrorOfBlock(t *testing.T, b block.Block, wrong api.Errno) {
	t.Helper()
	number, e := block.Sure(b)
	wantValue(t, "Sure", number, e, 0, wrong)
	number, e = block.Might(b)
	wantValue(t, "Might", number, e, 0, wrong)
	number, e = block.Worst(b)
	wantValue(t, "Worst", number, e, 0, wrong)
	number, e = block.Firm(b)
	wantValue(t, "Firm", number, e, 0, wrong)
	blanks, e := block.Plan(b)
	wantList(t, "Plan", blanks, e, nil, wrong)
	cell, bar, e := block.Bound(b)
	wantValue(t, "Bound", cell, e, 0, wrong)
	wantList(t, "Bound", bar, e, nil, wrong)
	for _, n := range list(-1, 0, 99) {
		blanks, e = block.Cut(b, n)
		wantList(t, "Cut", blanks, e, nil, wrong)
		wantErrno(t, "Promise", block.Promise(b, n), wrong)
		wantErrno(t, "Proves", block.Proves(b, n, n, list(n)), wrong)
		number, e = block.Kept(b, cutting(n, n))
		wantValue(t, "Kept", number, e, 0, wrong)
		number, e = block.Gain(b, seam.Gallery{A: n})
		wantValue(t, "Gain", number, e, 0, wrong)
		offered := make([]seam.Gallery, max(n, 0))
		number, e = block.Ask(b, offered)
		wantValue(t, "Ask", number, e, 0, wrong)
		number, e = block.Questions(b, offered, n)
		wantValue(t, "Questions", number, e, 0, wrong)
	}
}
