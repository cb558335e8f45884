package block_test

import (
	"math/rand/v2"
	"slices"
	"testing"

	"novaculite/api"
	"novaculite/block"
	"novaculite/seam"
)

func TestGain(t *testing.T) { // P9.6
	seen := map[int]int{}
	forTruths(t, func(r *rand.Rand, b block.Block, _ []int) {
		p := plainOf(b)
		for _, g := range append(lines(r, b.Size, 6), b.Galleries...) {
			number, e := block.Gain(b, g)
			wantValue(t, "Gain", number, e, p.gain(g), api.OK)
			seen[number]++
		}
	})
	if seen[1] == 0 {
		t.Error("nothing was gained")
	}
}

func TestErrorsOfGalleries(t *testing.T) { // P9.6
	for _, x := range []struct {
		name string
		g    seam.Gallery
		e    api.Errno
	}{
		{"the greatest numbers", seam.Gallery{A: 9, B: 9, C: 200}, api.OK},
		{"the smallest numbers", seam.Gallery{A: -9, B: -9, C: -201}, api.OK},
		{"A too great", seam.Gallery{A: 10}, api.ErrRange},
		{"A too small", seam.Gallery{A: -10}, api.ErrRange},
		{"B too great", seam.Gallery{B: greatest}, api.ErrRange},
		{"B too small", seam.Gallery{B: smallest}, api.ErrRange},
		{"C too great", seam.Gallery{A: 1, C: 201}, api.ErrRange},
		{"C too small", seam.Gallery{A: 1, C: -202}, api.ErrRange},
		{"no slope", seam.Gallery{}, api.ErrShape},
		{"no slope, and C too great", seam.Gallery{C: 201}, api.ErrRange},
	} {
		number, e := block.Gain(blockE(), x.g)
		wantValue(t, "Gain: "+x.name, number, e, 0, x.e)
		number, e = block.Ask(blockE(), []seam.Gallery{x.g, x.g})
		wantValue(t, "Ask: "+x.name, number, e, 0, x.e)
		number, e = block.Questions(blockE(), []seam.Gallery{x.g}, 3)
		wantValue(t, "Questions: "+x.name, number, e, 0, x.e)
		number, e = block.Questions(blockE(), append(galleries(1, 0, 0), x.g), 4)
		wantValue(t, "Questions for too many: "+x.name, number, e, 0, errorUnless(x.e != api.OK, api.ErrClash)+x.e)
	}
}

func TestErrorsOfOffers(t *testing.T) { // P9.6, P9.7
	both := galleries(1, 0, 0, 1, 0, 1)
	for _, x := range []struct {
		name      string
		offered   []seam.Gallery
		blanks    int
		ask       int
		e         api.Errno
		questions int
		f         api.Errno
	}{
		{"nil, for none", nil, 0, 0, api.ErrEmpty, 0, api.OK},
		{"none", galleries(), 4, 0, api.ErrEmpty, 0, api.ErrClash},
		{"none, for less than none", galleries(), -1, 0, api.ErrEmpty, 0, api.ErrRange},
		{"two, for the smallest number", both, smallest, 0, api.OK, 0, api.ErrRange},
		{"two, for the greatest number", both, greatest, 0, api.OK, 0, api.ErrClash},
		{"five", append(galleries(1, 0, 2, 1, 0, 2, 1, 0, 2), both...), 4, 3, api.OK, 2, api.OK},
		{"six", slices.Repeat(both, 3), 4, 0, api.ErrMany, 0, api.ErrMany},
		{"six wrong ones", make([]seam.Gallery, 6), 4, 0, api.ErrMany, 0, api.ErrMany},
		{"six, for less than none", make([]seam.Gallery, 6), -1, 0, api.ErrMany, 0, api.ErrRange},
		{"a wrong one, for less than none", make([]seam.Gallery, 1), -1, 0, api.ErrShape, 0, api.ErrRange},
		{"a wrong one, for none", make([]seam.Gallery, 1), 0, 0, api.ErrShape, 0, api.ErrShape},
		{"a wrong one, for too many", make([]seam.Gallery, 1), 9, 0, api.ErrShape, 0, api.ErrShape},
		{"a shape before a range", galleries(1, 0, 0, 0, 0, 0, 10, 0, 0), 4, 0, api.ErrShape, 0, api.ErrShape},
		{"a range before a shape", galleries(1, 0, 0, 10, 0, 0, 0, 0, 0), 4, 0, api.ErrRange, 0, api.ErrRange},
	} {
		number, e := block.Ask(blockE(), x.offered)
		wantValue(t, "Ask: "+x.name, number, e, x.ask, x.e)
		number, e = block.Questions(blockE(), x.offered, x.blanks)
		wantValue(t, "Questions: "+x.name, number, e, x.questions, x.f)
	}
}

func TestAsk(t *testing.T) { // P9.6
	seen := map[int]int{}
	forTruths(t, func(r *rand.Rand, b block.Block, _ []int) {
		p := plainOf(b)
		for range 4 {
			offered := lines(r, b.Size, between(r, 1, block.MaxOffered))
			best := p.ask(offered)
			number, e := block.Ask(b, offered)
			wantValue(t, "Ask", number, e, best, api.OK)
			seen[best]++
		}
	})
	if len(seen) != block.MaxOffered {
		t.Errorf("not each one was the best: %v", seen)
	}
}

func TestAskOfChosenGalleries(t *testing.T) { // P9.6
	for _, x := range []struct {
		name    string
		b       block.Block
		offered []seam.Gallery
		want    int
	}{
		{"the same twice", blockE(), galleries(1, 0, 0, 1, 0, 0), 0},
		{"a gain before fewer truths", stone(3, list(0, 1, 5), -1, 1, 0), galleries(-1, 1, -1, -1, -1, -3), 1},
		{"a gain before fewer truths, told first", stone(3, list(0, 1, 5), -1, 1, 0), galleries(-1, -1, -3, -1, 1, -1), 0},
		{"fewer truths without a gain", blockE(), galleries(1, 0, 9, 1, 0, 0), 1},
		{"the opposite is not better", blockE(), galleries(1, 0, 0, -1, 0, -1, 1, 0, 1), 0},
	} {
		number, e := block.Ask(x.b, x.offered)
		wantValue(t, "Ask: "+x.name, number, e, x.want, api.OK)
		wantValue(t, "the reference: "+x.name, plainOf(x.b).ask(x.offered), e, x.want, api.OK)
	}
}

// questionsOf returns what Questions must return.
func (p plain) questionsOf(offered []seam.Gallery, blanks int) (int, api.Errno) {
	number := p.questions(p.truths, offered, blanks)
	if number == never {
		return 0, api.ErrClash
	}
	return number, api.OK
}

func TestQuestions(t *testing.T) { // P9.7
	seen := map[int]int{}
	forTruths(t, func(r *rand.Rand, b block.Block, _ []int) {
		p := plainOf(b)
		offered := lines(r, b.Size, between(r, 0, block.MaxOffered))
		for blanks := range 10 {
			want, wrong := p.questionsOf(offered, blanks)
			number, e := block.Questions(b, offered, blanks)
			wantValue(t, "Questions", number, e, want, wrong)
			seen[number]++
		}
	})
	if seen[1] == 0 || seen[2] == 0 {
		t.Errorf("no questions: %v", seen)
	}
}

func TestQuestionsOfChosenGalleries(t *testing.T) { // P9.7
	for _, x := range []struct {
		name    string
		b       block.Block
		offered []seam.Gallery
		want    int
		e       api.Errno
	}{
		{"one truth after the other", diamond(), galleries(1, 0, 1, 0, 1, 0, 1, 0, 2), 3, api.OK},
		{"and galleries that show nothing", diamond(), galleries(1, 0, 9, 1, 0, 1, 0, 1, 0, 1, 0, 1, 1, 0, 2), 3, api.OK},
		{"two truths by two", diamond(), galleries(1, 0, 1, 1, 1, 2, -1, 1, -1), 2, api.OK},
		{"two truths by two, told last", diamond(), galleries(1, 0, 1, 0, 1, 0, 1, 0, 2, 1, 1, 2, -1, 1, -1), 2, api.OK},
		{"another one for each answer", diamond(), galleries(1, 1, 2, 0, 1, 0, 1, 0, 2), 2, api.OK},
		{"too few galleries", diamond(), galleries(1, 0, 1, 0, 1, 0), 0, api.ErrClash},
	} {
		number, e := block.Questions(x.b, x.offered, 3)
		wantValue(t, "Questions: "+x.name, number, e, x.want, x.e)
		want, wrong := plainOf(x.b).questionsOf(x.offered, 3)
		wantValue(t, "the reference: "+x.name, want, wrong, x.want, x.e)
	}
}

func TestTenGalleriesAreNotTooMany(t *testing.T) { // P9.6, P9.7
	b := blockE()
	for len(b.Galleries) < seam.MaxGalleries {
		b = with(b, b.Galleries[0])
	}
	both := galleries(1, 0, 0, 1, 0, 1)
	number, e := block.Gain(b, both[0])
	wantValue(t, "Gain", number, e, 0, api.OK)
	number, e = block.Ask(b, both)
	wantValue(t, "Ask", number, e, 0, api.OK)
	number, e = block.Questions(b, both, 4)
	wantValue(t, "Questions", number, e, 2, api.OK)
}
