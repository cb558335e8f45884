package block_test

import (
	"math/rand/v2"
	"slices"
	"testing"

	"novaculite/api"
	"novaculite/block"
	"novaculite/saw"
	"novaculite/seam"
)

const (
	greatest = int(^uint(0) >> 1)
	smallest = -greatest - 1
)

func list(numbers ...int) []int { return numbers }

// cutting makes blanks of two numbers each.
func cutting(numbers ...int) [][2]int {
	var blanks [][2]int
	for two := range slices.Chunk(numbers, 2) {
		blanks = append(blanks, [2]int(two))
	}
	return blanks
}

// galleries makes galleries of three numbers each.
func galleries(numbers ...int) []seam.Gallery {
	var all []seam.Gallery
	for three := range slices.Chunk(numbers, 3) {
		all = append(all, seam.Gallery{A: three[0], B: three[1], C: three[2]})
	}
	return all
}

// stone makes a block, whose galleries have three numbers each.
func stone(size int, spoiled []int, numbers ...int) block.Block {
	return block.Block{Size: size, Spoiled: spoiled, Galleries: galleries(numbers...)}
}

// The chapter's blocks.

func blockA() block.Block { return stone(2, nil) }

func blockB() block.Block { return stone(3, nil, 1, 0, 0) }

func blockE() block.Block { return stone(3, nil, 1, -1, 0, -1, 1, 0) }

func blockF() block.Block { return stone(3, nil, 1, -1, 0, -1, 1, 0, 1, 0, 1) }

func blockK() block.Block { return stone(3, nil, 1, -1, 0, -1, 1, 0, 1, 0, -1) }

// diamond is a block whose good cells are a row of seven, 5 1 2 3 7 11 10. The
// truths are four of them, 2, 5, 7 and 10, each of which may be left over, and the
// cell 6 between, which is spoiled.
func diamond() block.Block {
	return stone(4, list(0, 4, 6, 8, 9, 12, 13, 14, 15), 1, 1, 4, -1, -1, -2, 1, -1, 2, -1, 1, 0)
}

func clone(b block.Block) block.Block {
	b.Spoiled, b.Galleries = slices.Clone(b.Spoiled), slices.Clone(b.Galleries)
	return b
}

// with returns a block with one gallery more.
func with(b block.Block, g seam.Gallery) block.Block {
	b = clone(b)
	b.Galleries = append(b.Galleries, g)
	return b
}

func opposite(g seam.Gallery) seam.Gallery { return seam.Gallery{A: -g.A, B: -g.B, C: -g.C - 1} }

func wantErrno(t *testing.T, call string, got, want api.Errno) {
	t.Helper()
	if got != want {
		t.Errorf("%s: error %d, want %d", call, got, want)
	}
}

func wantValue[T comparable](t *testing.T, call string, got T, e api.Errno, want T, wantE api.Errno) {
	t.Helper()
	if got != want || e != wantE {
		t.Errorf("%s: %v with error %d, want %v with %d", call, got, e, want, wantE)
	}
}

func wantList[T comparable](t *testing.T, call string, got []T, e api.Errno, want []T, wantE api.Errno) {
	t.Helper()
	if !slices.Equal(got, want) || e != wantE {
		t.Errorf("%s: %v with error %d, want %v with %d", call, got, e, want, wantE)
	}
}

// errorUnless returns an error unless there is a result.
func errorUnless(is bool, e api.Errno) api.Errno {
	if is {
		return api.OK
	}
	return e
}

func newRandom() *rand.Rand { return rand.New(rand.NewPCG(1, 2)) }

func anyOf[T any](r *rand.Rand, all []T) T { return all[r.IntN(len(all))] }

func between(r *rand.Rand, low, high int) int { return low + r.IntN(high-low+1) }

// someOf returns some elements of a list: all of a short one.
func someOf[T any](r *rand.Rand, all []T, most int) []T {
	if len(all) <= most {
		return all
	}
	var some []T
	for range most {
		some = append(some, anyOf(r, all))
	}
	return some
}

// edges returns the numbers at which an answer may change.
func edges() []int {
	return list(smallest, -2, -1, 0, 1, 2, 3, 4, 5, 8, 9, 10, 15, 16, 17, greatest)
}

// upTo returns the numbers from 0 on that are below a limit.
func upTo(limit int) []int {
	var l []int
	for i := range limit {
		l = append(l, i)
	}
	return l
}

// sets returns all lists, in ascending order, of some different numbers that are
// below a limit.
func sets(limit int) [][]int {
	all := [][]int{nil}
	for n := range limit {
		for _, set := range all {
			all = append(all, append(slices.Clone(set), n))
		}
	}
	return all
}

// sides returns galleries that divide a block of the size 2 in all ways, and some
// that do not divide it.
func sides() []seam.Gallery {
	return galleries(1, 0, 0, -1, 0, -1, 0, 1, 0, 0, -1, -1, 1, 1, 0, -1, -1, -1, 1, 1, 1, -1, -1, -2, 1, -1, 0, -1, 1, -1, -1, 1, 0, 1, -1, -1, 1, 0, 1, 0, 1, -1)
}

// smallBlocks returns the blocks of the sizes 1 and 2 with any spoiled cells and up
// to two galleries.
func smallBlocks() []block.Block {
	var all []block.Block
	for size := 1; size <= 2; size++ {
		for _, spoiled := range sets(size * size) {
			b := block.Block{Size: size, Spoiled: spoiled}
			all = append(all, b)
			for _, g := range sides() {
				all = append(all, with(b, g))
				for _, other := range sides() {
					all = append(all, with(with(b, g), other))
				}
			}
		}
	}
	return all
}

// line returns a gallery with which some places agree, and others do not, as a rule.
func line(r *rand.Rand, size int) seam.Gallery {
	steepest := anyOf(r, list(1, 1, 2, seam.MaxSlope))
	g := seam.Gallery{A: between(r, -steepest, steepest), B: between(r, -steepest, steepest)}
	if g.A == 0 && g.B == 0 {
		g.B = anyOf(r, list(-1, 1))
	}
	x, y := r.IntN(size), r.IntN(size)
	g.C = g.A*x + g.B*y - r.IntN(2)
	return g
}

func lines(r *rand.Rand, size, number int) []seam.Gallery {
	var all []seam.Gallery
	for range number {
		all = append(all, line(r, size))
	}
	return all
}

// randomBlock returns a block with few or many spoiled cells, or with more of them
// among the dark cells or the other ones, so that some best cuttings leave cells
// over; and, as a rule, with few galleries.
func randomBlock(r *rand.Rand, size int) block.Block {
	b := block.Block{Size: size}
	often := [2]int{anyOf(r, list(0, 1, 3, 6)), anyOf(r, list(0, 1, 3, 6))}
	for c := range size * size {
		if r.IntN(10) < often[(c/size+c%size)%2] {
			b.Spoiled = append(b.Spoiled, c)
		}
	}
	b.Galleries = lines(r, size, anyOf(r, list(0, 1, 1, 2, 2, 3, 4)))
	return b
}

// sureBlock returns a random block of which so many cells are spoiled that wherever
// the vein is there are as many blanks as if there were none.
func sureBlock(r *rand.Rand, size int) block.Block {
	b := randomBlock(r, size)
	truths := truthsOf(b)
	for {
		idle, _ := saw.Idle(slabOf(b))
		costly := slices.DeleteFunc(slices.Clone(truths), func(cell int) bool {
			return slices.Contains(b.Spoiled, cell) || slices.Contains(idle, cell)
		})
		if len(costly) == 0 {
			return b
		}
		b.Spoiled = append(b.Spoiled, anyOf(r, costly))
		slices.Sort(b.Spoiled)
	}
}

// narrowBlock returns a random block of which, as a rule, more blanks are sure than
// any cutting keeps.
func narrowBlock(r *rand.Rand, size int) block.Block {
	b := sureBlock(r, size)
	for range 60 {
		most, _ := saw.Most(slabOf(b))
		least, _ := saw.Most(slabOf(b, truthsOf(b)...))
		if least < most && len(truthsOf(b)) > 0 {
			return b
		}
		b = sureBlock(r, size)
	}
	return b
}

// slabOf returns the slab of a block in which some cells are spoiled, too.
func slabOf(b block.Block, cells ...int) saw.Slab {
	spoiled := slices.Sorted(slices.Values(slices.Concat(b.Spoiled, cells)))
	return saw.Slab{Wide: b.Size, High: b.Size, Spoiled: slices.Compact(spoiled)}
}

// dugBlock returns a random block that has a truth, and as many galleries as there
// can be.
func dugBlock(r *rand.Rand) block.Block {
	b := randomBlock(r, between(r, 2, block.MaxSize))
	b.Galleries = nil
	cell := r.IntN(b.Size * b.Size)
	for len(b.Galleries) < seam.MaxGalleries {
		g := line(r, b.Size)
		if !agrees(g, cell, b.Size) {
			g = opposite(g)
		}
		b.Galleries = append(b.Galleries, g)
	}
	return b
}

// largeBlocks returns the chapter's blocks and random ones of the sizes 3 and 4.
func largeBlocks(r *rand.Rand) []block.Block {
	all := []block.Block{blockB(), blockE(), blockF(), blockK(), diamond(), stone(3, nil), stone(4, nil)}
	for range 300 {
		all = append(all, randomBlock(r, 3), randomBlock(r, 4))
	}
	for range 60 {
		all = append(all, narrowBlock(r, 3), narrowBlock(r, 4))
	}
	for range 20 {
		all = append(all, dugBlock(r))
	}
	return all
}

// forBlocks tells a test all small blocks, and random large ones.
func forBlocks(t *testing.T, test func(r *rand.Rand, b block.Block)) {
	t.Helper()
	r := newRandom()
	for _, b := range append(smallBlocks(), largeBlocks(r)...) {
		if test(r, b); t.Failed() {
			t.Fatalf("block %v", b)
		}
	}
}

// forTruths tells a test those of the blocks that have a truth.
func forTruths(t *testing.T, test func(r *rand.Rand, b block.Block, truths []int)) {
	t.Helper()
	forBlocks(t, func(r *rand.Rand, b block.Block) {
		if truths, e := block.Truths(b); e == api.OK && len(truths) > 0 {
			test(r, b, truths)
		}
	})
}
