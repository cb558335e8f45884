package saw_test

import (
	"testing"

	"novaculite/api"
	"novaculite/saw"
)

func TestBest(t *testing.T) { // P3.3, P3.4, P3.5
	for i, x := range []struct {
		s           saw.Slab
		most, count int
		first, sure [][2]int
		idle, bar   []int
	}{
		{slab(1, 1), 0, 1, nil, nil, list(0), nil},
		{slab(1, 1, 0), 0, 1, nil, nil, nil, nil},
		{slab(2, 2, 1, 2), 0, 1, nil, nil, list(0, 3), nil}, // cells that meet in a corner only
		{slab(1, 2), 1, 1, cutting(0, 1), cutting(0, 1), nil, list(0)},
		{slab(4, 1), 2, 1, cutting(0, 1, 2, 3), cutting(0, 1, 2, 3), nil, list(0, 2)},
		{slab(1, 5), 2, 3, cutting(0, 1, 2, 3), nil, list(0, 2, 4), list(1, 3)},
		{slab(4, 1, 1), 1, 1, cutting(2, 3), cutting(2, 3), list(0), list(2)},
		{slab(3, 2), 3, 3, cutting(0, 1, 2, 5, 3, 4), nil, nil, list(0, 2, 4)},
		{slab(3, 3, 0, 2, 6, 8), 1, 4, cutting(1, 4), nil, list(1, 3, 5, 7), list(4)}, // a cross
		{slab(3, 3, 1), 3, 14, cutting(0, 3, 2, 5, 4, 7), nil, list(0, 2, 4, 6, 8), list(3, 5, 7)},
		{slab(3, 3), 4, 18, cutting(0, 1, 2, 5, 3, 4, 6, 7), nil, list(0, 2, 4, 6, 8), list(1, 3, 5, 7)},
		{slab(4, 4), 8, 36, cutting(0, 1, 2, 3, 4, 5, 6, 7, 8, 9, 10, 11, 12, 13, 14, 15), nil, nil, list(0, 2, 5, 7, 8, 10, 13, 15)},
		{slab(2, 8), 8, 34, cutting(0, 1, 2, 3, 4, 5, 6, 7, 8, 9, 10, 11, 12, 13, 14, 15), nil, nil, list(0, 3, 4, 7, 8, 11, 12, 15)},
		{slab(8, 2), 8, 34, cutting(0, 1, 2, 3, 4, 5, 6, 7, 8, 9, 10, 11, 12, 13, 14, 15), nil, nil, list(0, 2, 4, 6, 9, 11, 13, 15)},
	} {
		most, e := saw.Most(x.s)
		wantNumber(t, "Most", most, e, x.most, api.OK)
		count, e := saw.Count(x.s)
		wantNumber(t, "Count", count, e, x.count, api.OK)
		first, e := saw.First(x.s)
		wantList(t, "First", first, e, x.first, api.OK)
		idle, e := saw.Idle(x.s)
		wantList(t, "Idle", idle, e, x.idle, api.OK)
		sure, e := saw.Sure(x.s)
		wantList(t, "Sure", sure, e, x.sure, api.OK)
		bar, e := saw.Bar(x.s)
		wantList(t, "Bar", bar, e, x.bar, api.OK)
		if t.Failed() {
			t.Fatalf("slab %d: %v", i, x.s)
		}
	}
}

func TestBestOfRandomSlabs(t *testing.T) { // P3.3, P3.4
	r := newRandom()
	for range 400 {
		s := randomSlab(r)
		best, most := bestOf(s)
		got, e := saw.Most(s)
		wantNumber(t, "Most", got, e, most, api.OK)
		count, e := saw.Count(s)
		wantNumber(t, "Count", count, e, len(best), api.OK)
		first, e := saw.First(s)
		wantList(t, "First", first, e, best[0], api.OK)
		idle, e := saw.Idle(s)
		wantList(t, "Idle", idle, e, idleOf(s), api.OK)
		sure, e := saw.Sure(s)
		wantList(t, "Sure", sure, e, sureOf(s), api.OK)
		if t.Failed() {
			t.Fatalf("slab %v", s)
		}
	}
}

func TestBarOfRandomSlabs(t *testing.T) { // P3.5
	r := newRandom()
	for range 100 {
		s := randomSlab(r)
		bar, e := saw.Bar(s)
		wantList(t, "Bar", bar, e, barsOf(s)[0], api.OK)
		if t.Failed() {
			t.Fatalf("slab %v", s)
		}
	}
}

func TestProves(t *testing.T) { // P3.5
	for i, x := range []struct {
		s      saw.Slab
		blanks int
		cells  []int
		want   api.Errno
	}{
		{slabC(), 1, list(1), api.OK},
		{slabC(), greatest, list(1), api.OK},
		{slabC(), 3, list(0, 1, 2), api.OK},
		{slabC(), 2, list(0, 1, 2), api.ErrProof},
		{slab(1, 1), 0, nil, api.OK},
		{slab(1, 1, 0), 0, nil, api.OK},
		{slab(2, 2, 1, 2), 0, nil, api.OK},
		{slab(2, 2, 1, 2), 0, list(3), api.ErrProof},
		{slabC(), -1, list(1), api.ErrRange},
		{slabC(), smallest, list(1), api.ErrRange},
		{slabC(), 1, list(3), api.ErrNone},
		{slabC(), 1, list(-1), api.ErrNone},
		{slabC(), 9, list(1, greatest), api.ErrNone},
		{slabC(), 9, list(1, smallest), api.ErrNone},
		{slabC(), 9, list(2, 1), api.ErrOrder},
		{slabC(), 9, list(1, 1), api.ErrOrder},
		{slabD(), 9, list(0, 3), api.ErrClash},
		{slab(1, 1, 0), 9, list(0), api.ErrClash},
		{slabC(), 9, nil, api.ErrOpen},
		{slabC(), 9, list(0), api.ErrOpen},
		{slabC(), 9, list(2), api.ErrOpen},
		{slabA(), 9, list(0, 1), api.ErrOpen},
		{slabA(), 9, list(1, 2), api.OK},
		{slabA(), 1, list(1, 2), api.ErrProof},
		// the error named first
		{slabC(), -1, list(9), api.ErrRange},
		{slabC(), -1, nil, api.ErrRange},
		{slabC(), 0, list(2, 1), api.ErrOrder},
		{slabC(), 0, list(0), api.ErrOpen},
		{slab(3, 1, 0), 9, list(1, 0), api.ErrOrder},
		{slab(2, 2, 0, 1), 9, list(0, 9), api.ErrClash},
		{slab(2, 2, 0, 1), 9, list(2, 1, 9), api.ErrOrder},
		{slab(2, 2, 0, 1), 9, list(2, 9, 1), api.ErrNone},
		{slabD(), 0, list(3), api.ErrClash},
	} {
		if e := saw.Proves(x.s, x.blanks, x.cells); e != x.want {
			t.Errorf("Proves %d: %d, want %d", i, e, x.want)
		}
	}
}

func TestProvesOfRandomCells(t *testing.T) { // P3.5
	r := newRandom()
	bars := 0
	for range 2000 {
		s := randomSlab(r)
		var cells []int
		for _, c := range goodOf(s) {
			if r.IntN(4) > 0 {
				cells = append(cells, c)
			}
		}
		want := api.ErrOpen
		if isBar(s, cells) {
			want = api.OK
			bars++
		}
		wantErrno(t, "Proves", saw.Proves(s, len(cells), cells), want)
		if want == api.OK && len(cells) > 0 {
			wantErrno(t, "Proves of one less", saw.Proves(s, len(cells)-1, cells), api.ErrProof)
		}
		if t.Failed() {
			t.Fatalf("slab %v, cells %v", s, cells)
		}
	}
	if bars == 0 {
		t.Error("no bar at all")
	}
}
