package saw_test

import (
	"slices"
	"testing"

	"novaculite/api"
	"novaculite/saw"
)

// calls returns what each function but Check answers besides the error, by its
// length or as a number, and the errors. The other arguments have errors too.
func calls(s saw.Slab) (results []int, errors []api.Errno) {
	out := cutting(0, -1)
	add := func(result int, e api.Errno) {
		results = append(results, result)
		errors = append(errors, e)
	}
	addList := func(l []int, e api.Errno) { add(len(l), e) }
	addBlanks := func(l [][2]int, e api.Errno) { add(len(l), e) }
	addList(saw.Cells(s))
	whole, e := saw.Whole(s)
	add(map[bool]int{true: 1}[whole], e)
	add(0, saw.Valid(s, out))
	add(saw.Most(s))
	addBlanks(saw.First(s))
	add(saw.Count(s))
	addList(saw.Idle(s))
	addBlanks(saw.Sure(s))
	addList(saw.Bar(s))
	add(0, saw.Proves(s, -1, list(-1)))
	addList(saw.Heights(s, out))
	addBlanks(saw.Turn(s, out, -1))
	addBlanks(saw.Lowest(s))
	addBlanks(saw.Highest(s))
	add(saw.Turns(s, out, out))
	addBlanks(saw.Lower(s, out, out))
	addBlanks(saw.Higher(s, out, out))
	return results, errors
}

func TestCheck(t *testing.T) { // P3.1
	for i, x := range []struct {
		s    saw.Slab
		want api.Errno
	}{
		{slab(1, 1), api.OK},
		{slab(8, 1), api.OK},
		{slab(1, 8), api.OK},
		{slab(8, 2), api.OK},
		{slab(2, 8), api.OK},
		{slab(4, 4), api.OK},
		{slab(1, 1, 0), api.OK},
		{slab(2, 2, 0, 1, 2, 3), api.OK},
		{slab(5, 3, 0, 14), api.OK},
		{slab(0, 1), api.ErrRange},
		{slab(1, 0), api.ErrRange},
		{slab(9, 1), api.ErrRange},
		{slab(1, 9), api.ErrRange},
		{slab(-1, 1), api.ErrRange},
		{slab(1, -1), api.ErrRange},
		{slab(-2, -2), api.ErrRange},
		{slab(greatest, greatest), api.ErrRange},
		{slab(smallest, smallest), api.ErrRange},
		{slab(1<<32, 1<<32), api.ErrRange},
		{slab(9, 9, -1), api.ErrRange},
		{slab(8, 9), api.ErrRange},
		{slab(8, 3), api.ErrMany},
		{slab(3, 6), api.ErrMany},
		{slab(8, 8, -1), api.ErrMany},
		{slab(17, 1), api.ErrRange},
		{slab(2, 2, 4), api.ErrNone},
		{slab(2, 2, -1), api.ErrNone},
		{slab(4, 4, 16), api.ErrNone},
		{slab(2, 2, greatest), api.ErrNone},
		{slab(2, 2, smallest), api.ErrNone},
		{slab(2, 2, 1, 1), api.ErrOrder},
		{slab(2, 2, 3, 2), api.ErrOrder},
		{slab(2, 2, 1, 0, 4), api.ErrOrder},
		{slab(2, 2, 3, -1), api.ErrNone},
		{slab(2, 2, 0, 4, 3), api.ErrNone},
	} {
		if e := saw.Check(x.s); e != x.want {
			t.Errorf("Check %d: %d, want %d", i, e, x.want)
		}
		if x.want == api.OK {
			continue
		}
		results, errors := calls(x.s)
		for j, e := range errors {
			if e != x.want || results[j] != 0 {
				t.Errorf("call %d of slab %d: %d with error %d, want 0 with %d", j, i, results[j], e, x.want)
			}
		}
	}
}

func TestCells(t *testing.T) { // P3.1
	for i, x := range []struct {
		s    saw.Slab
		want []int
	}{
		{slab(2, 2), list(0, 1, 2, 3)},
		{slab(3, 2, 0, 4), list(1, 2, 3, 5)},
		{slab(1, 1, 0), nil},
		{slab(1, 3, 0, 2), list(1)},
		{slab(4, 4, 0, 1, 2, 3, 4, 5, 6, 7, 8, 9, 10, 11, 12, 13, 14), list(15)},
	} {
		cells, e := saw.Cells(x.s)
		wantList(t, "Cells "+string(rune('0'+i)), cells, e, x.want, api.OK)
	}
}

func TestWhole(t *testing.T) { // P3.1
	for i, x := range []struct {
		s    saw.Slab
		want bool
	}{
		{slab(1, 1), true},
		{slab(1, 1, 0), false}, // no good cell
		{slab(3, 3), true},
		{slab(3, 3, 4), false},          // a hole
		{slab(3, 3, 0, 4), false},       // the hole meets the spoiled cell at the edge in a corner only
		{slab(3, 3, 1, 4), true},        // the hole is open
		{slab(3, 3, 1, 4, 7), false},    // two parts
		{slab(2, 2, 0, 3), false},       // two parts that meet in a corner
		{slab(3, 1, 1), false},          // one row in two parts
		{slab(1, 4, 0, 3), true},        // one column
		{slab(4, 4, 5, 6, 9), false},    // a hole of three cells
		{slab(4, 4, 5, 6, 9, 13), true}, // and one that is open below
		{slab(4, 4, 5, 6, 7), true},     // open to the right
		{slab(4, 4, 4, 5, 6), true},     // open to the left
		{slab(5, 3, 6, 8), false},       // two holes
		{slab(5, 3, 1, 6, 8), false},    // one of two is open
		{slab(5, 3, 1, 3, 6, 8), true},  // both are
		{slab(4, 2, 1, 4), false},
		{slab(4, 2, 3, 4), true}, // the ends of two rows are no neighbours
	} {
		whole, e := saw.Whole(x.s)
		if whole != x.want || e != api.OK {
			t.Errorf("Whole %d: %v %d, want %v", i, whole, e, x.want)
		}
	}
}

func TestWholeOfAll(t *testing.T) { // P3.1
	for _, size := range [][2]int{{4, 3}, {3, 3}, {3, 4}, {6, 1}, {1, 6}, {5, 2}, {2, 5}} {
		cells := size[0] * size[1]
		for mask := range 1 << cells {
			s := slab(size[0], size[1])
			for c := range cells {
				if mask>>c&1 == 1 {
					s.Spoiled = append(s.Spoiled, c)
				}
			}
			if whole, e := saw.Whole(s); whole != isWhole(s) || e != api.OK {
				t.Fatalf("Whole of %v: %v %d", s, whole, e)
			}
		}
	}
}

func TestValid(t *testing.T) { // P3.2
	for i, x := range []struct {
		s      saw.Slab
		blanks [][2]int
		want   api.Errno
	}{
		{slabA(), nil, api.OK},
		{slabA(), cutting(0, 2), api.OK},
		{slabA(), cutting(0, 2, 1, 3), api.OK},
		{slab(3, 2), cutting(2, 5), api.OK},
		{slab(1, 3), cutting(1, 2), api.OK},
		{slab(8, 2), cutting(0, 8, 7, 15), api.OK},
		{slab(1, 1, 0), nil, api.OK},
		{slabA(), cutting(-1, 0), api.ErrNone},
		{slabA(), cutting(0, -1), api.ErrNone},
		{slabA(), cutting(4, 4), api.ErrNone},
		{slabA(), cutting(greatest, smallest), api.ErrNone},
		{slabA(), cutting(3, 4), api.ErrNone},
		{slabA(), cutting(5, 1), api.ErrNone},
		{slabA(), cutting(0, 0), api.ErrShape},
		{slabA(), cutting(3, 1), api.ErrShape},
		{slabA(), cutting(1, 2), api.ErrShape},
		{slab(3, 2), cutting(2, 3), api.ErrShape}, // the end of a row and the beginning of the next one
		{slab(1, 3), cutting(0, 2), api.ErrShape},
		{slab(4, 1), cutting(0, 2), api.ErrShape},
		{slab(2, 8), cutting(0, 4), api.ErrShape},
		{slabA(), cutting(0, 1, 0, 1), api.ErrOrder},
		{slabA(), cutting(0, 2, 0, 1), api.ErrOrder},
		{slabA(), cutting(1, 3, 0, 2), api.ErrOrder},
		{slabA(), cutting(0, 1, 0, 2), api.ErrTwice},
		{slabA(), cutting(0, 1, 1, 3), api.ErrTwice},
		{slabA(), cutting(0, 2, 2, 3), api.ErrTwice},
		{slabA(), cutting(1, 3, 2, 3), api.ErrTwice},
		{slabD(), cutting(2, 3), api.ErrClash},
		{slab(2, 2, 0), cutting(0, 1), api.ErrClash},
		// of one blank, the error named first
		{slab(2, 2, 0, 3), cutting(0, 3), api.ErrShape},
		{slab(2, 2, 0), cutting(1, 0), api.ErrShape},
		{slab(2, 2, 0), cutting(1, 3, 0, 1), api.ErrOrder},
		{slab(2, 2, 2), cutting(0, 1, 0, 2), api.ErrClash},
		{slabA(), cutting(0, 1, 3, 3), api.ErrShape},
		// of several blanks, the first one's
		{slabA(), cutting(0, 1, 1, 3, 9, 9), api.ErrTwice},
		{slabA(), cutting(0, 3, 9, 9), api.ErrShape},
		{slabD(), cutting(1, 3, 0, 9), api.ErrClash},
		{slabA(), cutting(2, 3, 0, 1, 0, 0), api.ErrOrder},
	} {
		if e := saw.Valid(x.s, x.blanks); e != x.want {
			t.Errorf("Valid %d: %d, want %d", i, e, x.want)
		}
		if x.want == api.OK {
			continue
		}
		ofBlanks(t, x.s, x.blanks, x.want)
	}
}

// ofBlanks wants an error of blanks from each function that has some. Its own
// arguments have errors too.
func ofBlanks(t *testing.T, s saw.Slab, blanks [][2]int, want api.Errno) {
	t.Helper()
	bad := cutting(-1, -1)
	heights, e := saw.Heights(s, blanks)
	wantList(t, "Heights", heights, e, nil, want)
	turned, e := saw.Turn(s, blanks, -1)
	wantList(t, "Turn", turned, e, nil, want)
	turns, e := saw.Turns(s, blanks, bad)
	wantNumber(t, "Turns, a", turns, e, 0, want)
	turns, e = saw.Turns(s, nil, blanks)
	wantNumber(t, "Turns, b", turns, e, 0, want)
	lower, e := saw.Lower(s, blanks, bad)
	wantList(t, "Lower, a", lower, e, nil, want)
	lower, e = saw.Lower(s, nil, blanks)
	wantList(t, "Lower, b", lower, e, nil, want)
	higher, e := saw.Higher(s, blanks, bad)
	wantList(t, "Higher, a", higher, e, nil, want)
	higher, e = saw.Higher(s, nil, blanks)
	wantList(t, "Higher, b", higher, e, nil, want)
}

func TestValidOfAll(t *testing.T) { // P3.2
	for _, s := range []saw.Slab{slabA(), slabD(), slab(3, 2, 1), slab(1, 4)} {
		all := cuttingsOf(s)
		numbers := s.Wide*s.High + 2
		var pairs [][2]int
		for c := range numbers {
			for d := range numbers {
				pairs = append(pairs, [2]int{c - 1, d - 1})
			}
		}
		for _, k := range pairs {
			for _, l := range pairs {
				blanks := [][2]int{k, l}
				isOne := slices.ContainsFunc(all, func(m [][2]int) bool { return slices.Equal(m, blanks) })
				if e := saw.Valid(s, blanks); (e == api.OK) != isOne {
					t.Fatalf("Valid of %v, %v: %d", s, blanks, e)
				}
			}
		}
	}
}

func TestMemoryIsApart(t *testing.T) { // R4
	s := slab(3, 3, 0)
	blanks := cutting(1, 2, 3, 4, 5, 8, 6, 7)
	before := slices.Clone(blanks)
	touched := func(l [][2]int) {
		for i := range l {
			l[i] = [2]int{99, 99}
		}
	}
	for range 2 {
		turned, e := saw.Turn(s, blanks, 9)
		wantList(t, "Turn", turned, e, cutting(1, 2, 3, 6, 4, 7, 5, 8), api.OK)
		touched(turned)
		first, e := saw.First(s)
		wantList(t, "First", first, e, cutting(1, 2, 3, 4, 5, 8, 6, 7), api.OK)
		touched(first)
		for _, f := range []func(saw.Slab, [][2]int, [][2]int) ([][2]int, api.Errno){saw.Lower, saw.Higher} {
			l, e := f(s, blanks, blanks)
			wantList(t, "of the same", l, e, before, api.OK)
			touched(l)
		}
		cells, e := saw.Cells(s)
		wantList(t, "Cells", cells, e, list(1, 2, 3, 4, 5, 6, 7, 8), api.OK)
		cells[0] = 99
		wantList(t, "blanks", blanks, api.OK, before, api.OK)
		wantList(t, "spoiled", s.Spoiled, api.OK, list(0), api.OK)
	}
}
