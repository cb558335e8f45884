package suit_test

import (
	"math/rand/v2"
	"slices"
	"testing"

	"novaculite/api"
	"novaculite/suit"
)

// most is of how many divisions of a large book a test asks.
const most = 40

func TestPlaces(t *testing.T) { // P8.4
	forBooks(t, func(r *rand.Rand, b suit.Book) {
		k := allOf(b)
		for _, i := range someOf(r, upTo(len(k.divisions)), most) {
			wantErrno(t, "Valid", suit.Valid(b, k.divisions[i]), api.OK)
			places, e := suit.Places(b, k.divisions[i])
			wantList(t, "Places", places, e, k.places[i], api.OK)
		}
	})
}

func TestMajority(t *testing.T) { // P8.5, P8.12
	forBooks(t, func(r *rand.Rand, b suit.Book) {
		k := allOf(b)
		for _, i := range someOf(r, upTo(len(k.divisions)), most) {
			for _, j := range someOf(r, upTo(len(k.divisions)), most) {
				there, e := suit.Majority(b, k.divisions[i], k.divisions[j])
				wantValue(t, "Majority", there, e, k.majority(i, j), api.OK)
				back, e := suit.Majority(b, k.divisions[j], k.divisions[i])
				wantValue(t, "Majority of the other one", back, e, -there, api.OK)
			}
		}
	})
}

func TestErrorsOfTwoDivisions(t *testing.T) { // P8.4
	for _, x := range []struct {
		name            string
		division, other []int
		e               api.Errno
	}{
		{"both wrong", list(0, 2), list(3, 2, 1), api.ErrShape},
		{"both wrong, turned", list(3, 2, 1), list(0, 2), api.ErrNone},
		{"no stone of the list, and a stone twice", list(0, 1, -1), list(0, 0, 1), api.ErrLost},
		{"a stone twice, and no stone of the list", list(0, 0, 1), list(0, 1, -1), api.ErrTwice},
		{"the other one wrong", list(0, 2, 1), list(0, 0, 1), api.ErrTwice},
		{"no other one", list(0, 2, 1), nil, api.ErrShape},
	} {
		majority, e := suit.Majority(bookB(), x.division, x.other)
		wantValue(t, "Majority of B: "+x.name, majority, e, 0, x.e)
	}
}

func TestMarginWinner(t *testing.T) { // P8.5
	forBooks(t, func(r *rand.Rand, b suit.Book) {
		k := allOf(b)
		for _, i := range someOf(r, upTo(len(k.divisions)), most) {
			margin, e := suit.Margin(b, k.divisions[i])
			wantValue(t, "Margin", margin, e, k.margins[i], api.OK)
			winner, e := suit.Winner(b, k.divisions[i])
			if k.margins[i] == 0 {
				wantList(t, "Winner", winner, e, nil, api.ErrClash)
				continue
			}
			wantList(t, "Winner", winner, e, k.divisions[k.winners[i]], api.OK)
		}
	})
}

func TestPopular(t *testing.T) { // P8.5, P8.9
	forBooks(t, func(_ *rand.Rand, b suit.Book) {
		k := allOf(b)
		for i, division := range k.divisions {
			is, e := suit.Popular(b, division)
			wantValue(t, "Popular", is, e, k.margins[i] == 0, api.OK)
			wantValue(t, "wishes", hasWishes(b, division), api.OK, is, api.OK)
		}
	})
}

func TestFirstLargestCountLeast(t *testing.T) { // P8.6
	sizes := map[int]bool{}
	forBooks(t, func(_ *rand.Rand, b suit.Book) {
		k := allOf(b)
		popular := k.popular()
		lost := errorUnless(len(popular) > 0, api.ErrLost)
		var first []int
		if lost == api.OK {
			first = popular[0]
		}
		division, e := suit.First(b)
		wantList(t, "First", division, e, first, lost)
		division, e = suit.Largest(b)
		wantList(t, "Largest", division, e, largestOf(popular), lost)
		number, e := suit.Count(b)
		wantValue(t, "Count", number, e, len(popular), api.OK)
		number, e = suit.Least(b)
		wantValue(t, "Least", number, e, slices.Min(k.margins), api.OK)
		sizes[number] = true
	})
	for least := range 4 {
		if !sizes[least] {
			t.Errorf("no book has the least margin %d", least)
		}
	}
}

func TestSoundBetter(t *testing.T) { // P8.8
	forBooks(t, func(r *rand.Rand, b suit.Book) {
		k := allOf(b)
		for _, i := range someOf(r, upTo(len(k.divisions)), most) {
			want := k.better(i)
			is, e := suit.Sound(b, k.divisions[i])
			wantValue(t, "Sound", is, e, want == nil, api.OK)
			division, e := suit.Better(b, k.divisions[i])
			wantList(t, "Better", division, e, want, errorUnless(want != nil, api.ErrClash))
		}
	})
}
