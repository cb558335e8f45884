package saw_test

import (
	"slices"
	"testing"

	"novaculite/api"
	"novaculite/saw"
)

func TestHeights(t *testing.T) { // P3.6
	for i, x := range []struct {
		s      saw.Slab
		blanks [][2]int
		want   []int
		e      api.Errno
	}{
		{slab(2, 1), cutting(0, 1), list(0, 1, 0, -1, -2, -1), api.OK},
		{slab(1, 2), cutting(0, 1), list(0, 1, -1, 2, 0, 1), api.OK},
		{slab(1, 4), cutting(0, 1, 2, 3), list(0, 1, -1, 2, 0, 1, -1, 2, 0, 1), api.OK},
		{slab(3, 1, 0), cutting(1, 2), list(0, 0, -1, 0, 0, 1, 2, 1), api.OK},       // the first corner is corner 1
		{slab(2, 2, 0, 1), cutting(2, 3), list(0, 0, 0, 0, -1, 0, 1, 2, 1), api.OK}, // or 3
		{slab(3, 3, 0), cutting(1, 2, 3, 4, 5, 8, 6, 7), list(0, 0, -1, 0, 2, 1, 2, 1, 3, 4, 3, 0, 2, 1, 2, 1), api.OK},
		{slab(2, 1), nil, nil, api.ErrOpen},
		{slabA(), cutting(2, 3), nil, api.ErrOpen},
		{slabC(), cutting(0, 1), nil, api.ErrOpen},
		{slab(1, 1), nil, nil, api.ErrOpen},
		{slab(1, 1, 0), nil, nil, api.ErrShape}, // each good cell is in a blank, but there is none
		{slabB(), nil, nil, api.ErrShape},
		{slab(4, 2, 1, 2, 5, 6), cutting(0, 4, 3, 7), nil, api.ErrShape},
		{slab(4, 2, 1, 4), cutting(2, 3), nil, api.ErrShape},
	} {
		heights, e := saw.Heights(x.s, x.blanks)
		if !slices.Equal(heights, x.want) || e != x.e {
			t.Errorf("Heights %d: %v %d, want %v %d", i, heights, e, x.want, x.e)
		}
	}
}

func TestHeightsOfRandomSawings(t *testing.T) { // P3.6
	r := newRandom()
	for range 300 {
		s := sawnSlab(r)
		for _, k := range sawingsOf(s) {
			if heights, e := saw.Heights(s, k); !areHeights(s, k, heights) || e != api.OK {
				t.Fatalf("Heights of %v, %v: %v %d", s, k, heights, e)
			}
		}
	}
}

func TestErrorsOfRandomCuttings(t *testing.T) { // P3.6, P3.8, P3.9
	r := newRandom()
	seen := map[api.Errno]int{}
	for range 1000 {
		s := randomSlab(r)
		all := cuttingsOf(s)
		k := anyOf(r, all[max(0, len(all)-5):])
		want, lost := api.OK, api.OK
		switch {
		case !isWhole(s):
			want, lost = api.ErrShape, api.ErrShape
		case 2*len(k) < len(goodOf(s)):
			want = api.ErrOpen
		}
		if want != api.ErrShape && len(sawingsOf(s)) == 0 {
			lost = api.ErrLost
		}
		seen[want]++
		seen[lost]++
		_, e := saw.Heights(s, k)
		wantErrno(t, "Heights", e, want)
		_, e = saw.Turns(s, k, k)
		wantErrno(t, "Turns", e, want)
		_, e = saw.Lower(s, k, k)
		wantErrno(t, "Lower", e, want)
		_, e = saw.Higher(s, k, k)
		wantErrno(t, "Higher", e, want)
		_, e = saw.Lowest(s)
		wantErrno(t, "Lowest", e, lost)
		_, e = saw.Highest(s)
		wantErrno(t, "Highest", e, lost)
		if t.Failed() {
			t.Fatalf("slab %v, cutting %v", s, k)
		}
	}
	if len(seen) != 4 {
		t.Errorf("not each error was seen: %v", seen)
	}
}

func TestTurn(t *testing.T) { // P3.7
	for i, x := range []struct {
		s      saw.Slab
		blanks [][2]int
		corner int
		want   [][2]int
		e      api.Errno
	}{
		{slabA(), cutting(0, 2, 1, 3), 4, cutting(0, 1, 2, 3), api.OK},
		{slab(3, 2), cutting(0, 1, 2, 5, 3, 4), 5, cutting(0, 3, 1, 4, 2, 5), api.OK},
		{slab(3, 2), cutting(0, 3, 1, 2, 4, 5), 6, cutting(0, 3, 1, 4, 2, 5), api.OK},
		{slab(3, 3, 4, 8), cutting(0, 1, 2, 5), 5, nil, api.ErrClash},            // a spoiled cell there
		{slab(3, 3, 8), cutting(0, 1, 3, 4), 5, cutting(0, 3, 1, 4), api.OK},     // no sawing
		{slab(4, 4, 5, 15), cutting(2, 3, 6, 7), 8, cutting(2, 6, 3, 7), api.OK}, // not whole
		{slab(3, 2), cutting(0, 1, 2, 5, 3, 4), 6, nil, api.ErrClash},            // one blank there
		{slab(3, 2), cutting(0, 3, 1, 2, 4, 5), 5, nil, api.ErrClash},            // none there
		{slab(4, 2), cutting(0, 1, 2, 3, 4, 5, 6, 7), 7, nil, api.ErrClash},      // two that reach out of it
		{slab(4, 2), cutting(0, 1, 2, 6, 4, 5), 6, cutting(0, 4, 1, 5, 2, 6), api.OK},
		{slabA(), cutting(0, 1, 2, 3), 1, nil, api.ErrClash},
		{slabA(), cutting(0, 1, 2, 3), 3, nil, api.ErrClash},
		{slabA(), cutting(0, 1, 2, 3), 5, nil, api.ErrClash},
		{slabA(), cutting(0, 1, 2, 3), 7, nil, api.ErrClash},
		{slabA(), cutting(0, 1, 2, 3), 8, nil, api.ErrClash},
		{slabA(), nil, 4, nil, api.ErrClash},
		{slab(1, 4), cutting(0, 1, 2, 3), 5, nil, api.ErrClash},
		{slab(4, 1), cutting(0, 1, 2, 3), 2, nil, api.ErrClash},
		{slab(1, 1, 0), nil, 3, nil, api.ErrClash},
		{slab(1, 1, 0), nil, 4, nil, api.ErrNone},
		{slabA(), cutting(0, 1, 2, 3), -1, nil, api.ErrNone},
		{slabA(), cutting(0, 1), 9, nil, api.ErrNone},
		{slabA(), nil, greatest, nil, api.ErrNone},
		{slabA(), nil, smallest, nil, api.ErrNone},
	} {
		turned, e := saw.Turn(x.s, x.blanks, x.corner)
		if !slices.Equal(turned, x.want) || e != x.e {
			t.Errorf("Turn %d: %v %d, want %v %d", i, turned, e, x.want, x.e)
		}
	}
}

func TestTurnOfRandomCuttings(t *testing.T) { // P3.7
	r := newRandom()
	turned := 0
	for range 300 {
		s := randomSlab(r)
		k := anyOf(r, cuttingsOf(s))
		turns := turnsOf(s, k)
		for corner := range (s.Wide + 1) * (s.High + 1) {
			want, e := turns[corner], api.ErrClash
			if want != nil {
				e = api.OK
				turned++
			}
			got, gotE := saw.Turn(s, k, corner)
			wantList(t, "Turn", got, gotE, want, e)
			if t.Failed() {
				t.Fatalf("slab %v, cutting %v, corner %d", s, k, corner)
			}
		}
	}
	if turned == 0 {
		t.Error("no turn at all")
	}
}

func TestLowestHighest(t *testing.T) { // P3.8
	for i, x := range []struct {
		s         saw.Slab
		low, high [][2]int
		e         api.Errno
	}{
		{slab(1, 2), cutting(0, 1), cutting(0, 1), api.OK},
		{slab(2, 3), cutting(0, 1, 2, 4, 3, 5), cutting(0, 2, 1, 3, 4, 5), api.OK},
		{slab(3, 3, 0), cutting(1, 4, 2, 5, 3, 6, 7, 8), cutting(1, 2, 3, 4, 5, 8, 6, 7), api.OK},
		{slab(4, 4), cutting(0, 1, 2, 3, 4, 8, 5, 6, 7, 11, 9, 10, 12, 13, 14, 15), cutting(0, 4, 1, 2, 3, 7, 5, 9, 6, 10, 8, 12, 11, 15, 13, 14), api.OK},
		{slab(1, 1), nil, nil, api.ErrLost},
		{slabD(), nil, nil, api.ErrLost},
		{slab(4, 4, 0, 15), nil, nil, api.ErrLost},         // two dark cells less
		{slab(3, 3, 0, 2, 6, 7, 8), nil, nil, api.ErrLost}, // as many dark cells as light ones
		{slab(1, 1, 0), nil, nil, api.ErrShape},            // no good cell
		{slab(4, 1, 1, 2), nil, nil, api.ErrShape},         // neither whole nor to be sawn
		{slab(4, 2, 1, 2, 5, 6), nil, nil, api.ErrShape},   // two parts that can be sawn
		{slab(3, 3, 4), nil, nil, api.ErrShape},            // a hole
		{slab(4, 4, 5, 6, 9, 10), nil, nil, api.ErrShape},  // a greater one
	} {
		low, e := saw.Lowest(x.s)
		high, f := saw.Highest(x.s)
		if !slices.Equal(low, x.low) || e != x.e || !slices.Equal(high, x.high) || f != x.e {
			t.Errorf("slab %d: %v %d, %v %d", i, low, e, high, f)
		}
	}
}

// withHeights returns the only sawing of a slab of which each height is one of
// those of some sawings and none of these is beyond it, or nil if it is not one.
func withHeights(s saw.Slab, sawings [][][2]int, beyond func(a, b int) bool) [][2]int {
	all := make([][]int, len(sawings))
	for i, k := range sawings {
		all[i], _ = saw.Heights(s, k)
	}
	fits := func(k [][2]int) bool {
		heights, _ := saw.Heights(s, k)
		for i, h := range heights {
			is := func(other []int) bool { return other[i] == h }
			isBeyond := func(other []int) bool { return beyond(other[i], h) }
			if !slices.ContainsFunc(all, is) || slices.ContainsFunc(all, isBeyond) {
				return false
			}
		}
		return true
	}
	found := slices.DeleteFunc(sawingsOf(s), func(k [][2]int) bool { return !fits(k) })
	if len(found) != 1 {
		return nil
	}
	return found[0]
}

func isAbove(a, b int) bool { return a > b }

func isBelow(a, b int) bool { return a < b }

func TestLowestHighestOfRandomSlabs(t *testing.T) { // P3.8, P3.12
	r := newRandom()
	for range 150 {
		s := sawnSlab(r)
		all := sawingsOf(s)
		low, e := saw.Lowest(s)
		wantList(t, "Lowest", low, e, withHeights(s, all, isBelow), api.OK)
		high, e := saw.Highest(s)
		wantList(t, "Highest", high, e, withHeights(s, all, isAbove), api.OK)
		if t.Failed() {
			t.Fatalf("slab %v", s)
		}
	}
}

func TestTurnsLowerHigher(t *testing.T) { // P3.9
	s := slab(4, 2)
	// of these two none is lower
	a, b := cutting(0, 4, 1, 5, 2, 3, 6, 7), cutting(0, 1, 2, 6, 3, 7, 4, 5)
	turns, e := saw.Turns(s, a, b)
	wantNumber(t, "Turns", turns, e, 2, api.OK)
	turns, e = saw.Turns(s, a, a)
	wantNumber(t, "Turns to itself", turns, e, 0, api.OK)
	lower, e := saw.Lower(s, a, b)
	wantList(t, "Lower", lower, e, cutting(0, 1, 2, 3, 4, 5, 6, 7), api.OK)
	higher, e := saw.Higher(s, a, b)
	wantList(t, "Higher", higher, e, cutting(0, 4, 1, 5, 2, 6, 3, 7), api.OK)
	low, _ := saw.Lowest(slab(4, 4))
	high, _ := saw.Highest(slab(4, 4))
	turns, e = saw.Turns(slab(4, 4), low, high)
	wantNumber(t, "Turns from the lowest to the highest", turns, e, 10, api.OK)
	for i, x := range []struct {
		s    saw.Slab
		a, b [][2]int
		want api.Errno
	}{
		{slabA(), cutting(0, 1), cutting(0, 1, 2, 3), api.ErrOpen},
		{slabA(), cutting(0, 1, 2, 3), cutting(0, 1), api.ErrOpen},
		{slabA(), cutting(0, 1), nil, api.ErrOpen},
		{slabA(), nil, cutting(0, 3), api.ErrShape},
		{slabC(), cutting(0, 1), cutting(1, 2), api.ErrOpen},
		{slabB(), nil, nil, api.ErrShape},
		{slab(1, 1, 0), nil, nil, api.ErrShape},
		{slabB(), cutting(0, 1, 2, 5, 3, 6, 7, 8), cutting(0, 1, 2, 5, 3, 6, 7, 8), api.ErrShape},
		{slabB(), nil, cutting(0, 1, 1, 2), api.ErrTwice},
	} {
		turns, e := saw.Turns(x.s, x.a, x.b)
		lower, f := saw.Lower(x.s, x.a, x.b)
		higher, g := saw.Higher(x.s, x.a, x.b)
		if turns != 0 || lower != nil || higher != nil || e != x.want || f != x.want || g != x.want {
			t.Errorf("%d: %d %d, %v %d, %v %d, want %d", i, turns, e, lower, f, higher, g, x.want)
		}
	}
}

func TestTurnsLowerHigherOfRandomSlabs(t *testing.T) { // P3.9, P3.11
	r := newRandom()
	for range 200 {
		s := sawnSlab(r)
		all := sawingsOf(s)
		a, b := anyOf(r, all), anyOf(r, all)
		turns, e := saw.Turns(s, a, b)
		wantNumber(t, "Turns", turns, e, turnsTo(s, a, b), api.OK)
		lower, e := saw.Lower(s, a, b)
		wantList(t, "Lower", lower, e, withHeights(s, [][][2]int{a, b}, isBelow), api.OK)
		higher, e := saw.Higher(s, a, b)
		wantList(t, "Higher", higher, e, withHeights(s, [][][2]int{a, b}, isAbove), api.OK)
		if t.Failed() {
			t.Fatalf("slab %v, %v to %v", s, a, b)
		}
	}
}
