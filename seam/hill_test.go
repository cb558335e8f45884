package seam_test

import (
	"slices"
	"testing"

	"novaculite/api"
	"novaculite/seam"
)

// hillCalls returns what each function of hills answers, besides the errors, and the errors.
func hillCalls(h seam.Hill) (results []any, errors []api.Errno) {
	add := func(result any, e api.Errno) {
		results = append(results, result)
		errors = append(errors, e)
	}
	is, e := seam.Agrees(h, at(-1, 0))
	add(is, e)
	region, e := seam.Region(h)
	add(len(region), e)
	known, e := seam.Known(h, seam.Gallery{})
	add(known, e)
	loss, e := seam.Loss(h, seam.Gallery{})
	add(loss, e)
	ask, e := seam.Ask(h, nil)
	add(ask, e)
	contradict, e := seam.Contradict(h)
	add(len(contradict), e)
	add(0, seam.Proves(h, list(-1)))
	wrong, e := seam.Wrong(h)
	add(len(wrong), e)
	needless, e := seam.Needless(h)
	add(len(needless), e)
	fewest, e := seam.Fewest(h)
	add(len(fewest), e)
	return results, errors
}

func TestCheck(t *testing.T) { // P1.1
	ten := slices.Repeat(galleries(1, 0, 0), seam.MaxGalleries)
	for i, x := range []struct {
		h    seam.Hill
		want api.Errno
	}{
		{hill(1), api.OK},
		{hill(7, 9, -9, 200, -9, 9, -201), api.OK},
		{seam.Hill{Size: 3, Galleries: ten}, api.OK},
		{hill(0), api.ErrRange},
		{hill(8), api.ErrRange},
		{hill(greatest), api.ErrRange},
		{hill(smallest), api.ErrRange},
		{hill(0, 0, 0, 0), api.ErrRange},
		{seam.Hill{Size: 0, Galleries: make([]seam.Gallery, 11)}, api.ErrRange},
		{seam.Hill{Size: 3, Galleries: append(ten, gallery(1, 0, 0))}, api.ErrMany},
		{seam.Hill{Size: 3, Galleries: make([]seam.Gallery, 11)}, api.ErrMany},
		{hill(3, 10, 0, 0), api.ErrRange},
		{hill(3, -10, 0, 0), api.ErrRange},
		{hill(3, 0, 10, 0), api.ErrRange},
		{hill(3, 0, -10, 0), api.ErrRange},
		{hill(3, 1, 0, 201), api.ErrRange},
		{hill(3, 1, 0, -202), api.ErrRange},
		{hill(3, smallest, greatest, smallest), api.ErrRange},
		{hill(3, 0, 0, 0), api.ErrShape},
		{hill(3, 0, 0, 201), api.ErrRange},
		{hill(3, 1, 0, 0, 0, 0, 1, 1, 0, 201), api.ErrShape},
		{hill(3, 1, 0, 201, 0, 0, 1), api.ErrRange},
	} {
		if got := seam.Check(x.h); got != x.want {
			t.Errorf("Check %d: error %d, want %d", i, got, x.want)
		}
	}
}

func TestHillErrorsComeFirst(t *testing.T) { // P1.1
	for _, x := range []struct {
		h    seam.Hill
		want api.Errno
	}{
		{hill(8), api.ErrRange},
		{seam.Hill{Size: 3, Galleries: make([]seam.Gallery, 11)}, api.ErrMany},
		{hill(3, 1, 1, 1, 0, 0, 1), api.ErrShape},
	} {
		results, errors := hillCalls(x.h)
		for i, e := range errors {
			if e != x.want || results[i] != 0 && results[i] != false {
				t.Errorf("call %d: %v with error %d, want zero with %d", i, results[i], e, x.want)
			}
		}
	}
}

func TestOneGalleryMore(t *testing.T) { // P1.1
	for _, x := range []struct {
		g    seam.Gallery
		want api.Errno
	}{
		{gallery(0, 0, 0), api.ErrShape},
		{gallery(0, 0, -202), api.ErrRange},
		{gallery(10, 0, 0), api.ErrRange},
		{gallery(0, -10, 0), api.ErrRange},
		{gallery(1, 1, 201), api.ErrRange},
		{gallery(smallest, smallest, smallest), api.ErrRange},
	} {
		for _, h := range []seam.Hill{hillH(), hillK()} {
			n, e := seam.Known(h, x.g)
			wantNumber(t, "Known", n, e, 0, x.want)
			n, e = seam.Loss(h, x.g)
			wantNumber(t, "Loss", n, e, 0, x.want)
		}
		g, e := seam.Opposite(x.g)
		wantGallery(t, "Opposite", g, e, seam.Gallery{}, x.want)
	}
}

func TestOpposite(t *testing.T) { // P1.1
	for _, x := range []struct{ g, want seam.Gallery }{
		{gallery(1, 1, 3), gallery(-1, -1, -4)},
		{gallery(9, -9, 200), gallery(-9, 9, -201)},
		{gallery(0, 1, -201), gallery(0, -1, 200)},
		{gallery(-2, 0, -1), gallery(2, 0, 0)},
	} {
		g, e := seam.Opposite(x.g)
		wantGallery(t, "Opposite", g, e, x.want, api.OK)
	}
}

func TestAgrees(t *testing.T) { // P1.2
	for _, p := range places(4, 0, 0, 4, -1, 2, 2, -1, greatest, greatest, smallest, 0) {
		if is, e := seam.Agrees(hillH(), p); is || e != api.ErrNone {
			t.Errorf("Agrees of H, %v: %t with error %d, want false with %d", p, is, e, api.ErrNone)
		}
	}
	r := newRandom()
	for range 300 {
		h := randomHill(r)
		for _, p := range square(h.Size) {
			if is, e := seam.Agrees(h, p); is != agree(p, h.Galleries...) || e != api.OK {
				t.Fatalf("Agrees of %v, %v: %t with error %d", h, p, is, e)
			}
		}
	}
}

func TestRegion(t *testing.T) { // P1.2
	for _, x := range []struct {
		h    seam.Hill
		want []seam.Place
	}{
		{hill(1), places(0, 0)},
		{hill(2), places(0, 0, 0, 1, 1, 0, 1, 1)},
		{hill(3, 2, -1, 0), places(0, 0, 0, 1, 0, 2, 1, 2)},
		{hill(7, 9, 9, -1), nil},
		{hill(7, -1, -1, -12), places(6, 6)},
		{hill(7, 9, 9, 200), square(7)},
	} {
		region, e := seam.Region(x.h)
		wantList(t, "Region", region, e, x.want, api.OK)
	}
	r := newRandom()
	for range 500 {
		h := randomHill(r)
		region, e := seam.Region(h)
		wantList(t, "Region", region, e, regionOf(h.Size, h.Galleries), api.OK)
	}
}

func TestKnownAndLoss(t *testing.T) { // P1.3
	for _, x := range []struct {
		h           seam.Hill
		g           seam.Gallery
		known, loss int
		e           api.Errno
	}{
		{hill(4), gallery(1, 0, 3), 1, 0, api.OK},
		{hill(4), gallery(1, 0, -1), -1, 16, api.OK},
		{hill(4), gallery(1, 0, 2), 0, 4, api.OK},
		{hill(7), gallery(-1, -1, -1), 0, 1, api.OK},
		{hillK(), gallery(1, 0, 2), 0, 0, api.ErrLost},
		{hillK(), gallery(1, 0, -1), 0, 0, api.ErrLost},
	} {
		n, e := seam.Known(x.h, x.g)
		wantNumber(t, "Known", n, e, x.known, x.e)
		n, e = seam.Loss(x.h, x.g)
		wantNumber(t, "Loss", n, e, x.loss, api.OK)
	}
	r := newRandom()
	for range 500 {
		h, g := randomHill(r), randomGallery(r)
		region := regionOf(h.Size, h.Galleries)
		left := regionOf(h.Size, append(h.Galleries, g))
		n, e := seam.Loss(h, g)
		wantNumber(t, "Loss", n, e, len(region)-len(left), api.OK)
		want, wantE := 0, api.OK
		if len(region) == 0 {
			wantE = api.ErrLost
		} else if len(left) == len(region) {
			want = 1
		} else if len(left) == 0 {
			want = -1
		}
		n, e = seam.Known(h, g)
		wantNumber(t, "Known", n, e, want, wantE)
	}
}

func TestAsk(t *testing.T) { // P1.4
	ten := slices.Repeat(galleries(1, 0, 0), seam.MaxGalleries)
	for i, x := range []struct {
		h       seam.Hill
		offered []seam.Gallery
		want    int
		e       api.Errno
	}{
		{hill(4), galleries(1, 0, 9, 1, 0, 0, 1, 0, 1, 0, 1, 1), 2, api.OK},
		{hill(4), galleries(1, 0, 0, -1, 0, -1), 0, api.OK}, // 4 and 12, 12 and 4: both the same
		{hill(4), galleries(1, 0, 9), 0, api.OK},
		{hillK(), galleries(1, 0, 0, 1, 0, 1), 0, api.OK},
		{hill(4), ten, 0, api.OK},
		{hill(4), []seam.Gallery{}, 0, api.ErrEmpty},
		{hill(4), make([]seam.Gallery, 11), 0, api.ErrMany},
		{hill(4), append(ten, gallery(1, 0, 0)), 0, api.ErrMany},
		{hill(4), galleries(1, 0, 0, 0, 0, 0, 10, 0, 0), 0, api.ErrShape},
		{hill(4), galleries(1, 0, 0, 0, 10, 0, 0, 0, 0), 0, api.ErrRange},
	} {
		n, e := seam.Ask(x.h, x.offered)
		if n != x.want || e != x.e {
			t.Errorf("Ask %d: %d with error %d, want %d with %d", i, n, e, x.want, x.e)
		}
	}
	r := newRandom()
	for range 300 {
		h := randomHill(r)
		var offered []seam.Gallery
		want, least := 0, greatest
		for i := range 1 + r.IntN(seam.MaxGalleries) {
			offered = append(offered, randomGallery(r))
			left := len(regionOf(h.Size, append(h.Galleries, offered[i])))
			if greater := max(left, len(regionOf(h.Size, h.Galleries))-left); greater < least {
				want, least = i, greater
			}
		}
		n, e := seam.Ask(h, offered)
		wantNumber(t, "Ask", n, e, want, api.OK)
	}
}

func TestProves(t *testing.T) { // P1.5
	for i, x := range []struct {
		h    seam.Hill
		l    []int
		want api.Errno
	}{
		{hillK(), nil, api.ErrProof},
		{hillK(), list(0, 2), api.ErrProof},
		{hillH(), list(0, 1, 2), api.ErrProof},
		{hillK(), list(1, 1), api.ErrOrder},
		{hillK(), list(0, 2, 1, 9), api.ErrOrder},
		{hillK(), list(0, 9, 1), api.ErrNone},
		{hillK(), list(-1), api.ErrNone},
		{hillK(), list(2, -1), api.ErrNone},
		{hillK(), list(0, greatest), api.ErrNone},
		{hillK(), list(smallest), api.ErrNone},
		{hillH(), list(1, 0), api.ErrOrder},
		{hill(4), list(0), api.ErrNone},
		{hill(3, 1, 0, -1, 1, 0, 0), list(0, 1), api.OK},
	} {
		if e := seam.Proves(x.h, x.l); e != x.want {
			t.Errorf("Proves %d: error %d, want %d", i, e, x.want)
		}
	}
}

func TestSearches(t *testing.T) { // P1.5, P1.6
	for i, x := range []struct {
		h                                   seam.Hill
		contradict, wrong, needless, fewest []int
		e                                   api.Errno
	}{
		{hill(1), nil, nil, nil, nil, api.ErrClash},
		{hill(1, 1, 0, -1), list(0), list(0), nil, list(0), api.OK},
		{hill(4, 1, 0, 5), nil, nil, list(0), nil, api.ErrClash},
		{hill(4, 1, 0, 1, 1, 0, 1), nil, nil, list(0, 1), list(0), api.ErrClash},
		{hill(4, 1, 0, 2, 1, 0, 1, 0, 1, 9), nil, nil, list(0, 2), list(1), api.ErrClash},
		{hill(3, 1, 0, 0, -1, 0, -1, 0, 1, 0, 0, -1, -1), list(0, 1), list(0, 2), list(0, 1, 2, 3), list(0, 1), api.OK},
		{hill(3, 1, 0, 1, -1, 0, -2, 1, 0, 0), list(0, 1), list(1), list(0, 2), list(0, 1), api.OK},
		{hill(2, -1, 1, 0, 1, 1, 1, 1, -1, 0, -1, -1, -1), list(0, 1, 2, 3), list(0), nil, list(0, 1, 2, 3), api.OK},
	} {
		l, e := seam.Contradict(x.h)
		if !slices.Equal(l, x.contradict) || e != x.e {
			t.Errorf("Contradict %d: %v with error %d, want %v with %d", i, l, e, x.contradict, x.e)
		}
		l, e = seam.Wrong(x.h)
		wantList(t, "Wrong", l, e, x.wrong, api.OK)
		l, e = seam.Needless(x.h)
		wantList(t, "Needless", l, e, x.needless, api.OK)
		l, e = seam.Fewest(x.h)
		wantList(t, "Fewest", l, e, x.fewest, api.OK)
	}
}

func TestSearchesOfRandomHills(t *testing.T) { // P1.5, P1.6
	r := newRandom()
	for range 400 {
		h := randomHill(r)
		number := len(h.Galleries)
		places := func(galleries []seam.Gallery) int { return len(regionOf(h.Size, galleries)) }
		all := places(h.Galleries)
		l, e := seam.Contradict(h)
		if all > 0 {
			wantList(t, "Contradict", l, e, nil, api.ErrClash)
		} else {
			wantList(t, "Contradict", l, e, firstList(number, func(indices []int) bool {
				return places(chosen(h.Galleries, indices)) == 0
			}), api.OK)
		}
		l, e = seam.Wrong(h)
		wantList(t, "Wrong", l, e, firstList(number, func(indices []int) bool {
			return places(without(h.Galleries, indices)) > 0
		}), api.OK)
		l, e = seam.Fewest(h)
		wantList(t, "Fewest", l, e, firstList(number, func(indices []int) bool {
			return slices.Equal(regionOf(h.Size, chosen(h.Galleries, indices)), regionOf(h.Size, h.Galleries))
		}), api.OK)
		var needless []int
		for i := range number {
			if places(without(h.Galleries, list(i))) == all {
				needless = append(needless, i)
			}
		}
		l, e = seam.Needless(h)
		wantList(t, "Needless", l, e, needless, api.OK)
	}
}

func TestHillsKeepArguments(t *testing.T) { // R2, R4, P1
	r := newRandom()
	for range 50 {
		h, g := randomHill(r), randomGallery(r)
		spare := append(slices.Clone(h.Galleries), gallery(7, 7, 7))
		h.Galleries = spare[:len(h.Galleries)]
		before := slices.Clone(spare)
		seam.Known(h, g)
		seam.Loss(h, g)
		seam.Ask(h, []seam.Gallery{g})
		for _, call := range []func(seam.Hill) ([]int, api.Errno){seam.Contradict, seam.Wrong, seam.Needless, seam.Fewest} {
			one, _ := call(h)
			kept := slices.Clone(one)
			for i := range one {
				one[i] = -1
			}
			two, e := call(h)
			if !slices.Equal(two, kept) || e != api.OK && len(two) > 0 {
				t.Errorf("second call: %v with error %d, first %v", two, e, kept)
			}
		}
		if !slices.Equal(spare, before) {
			t.Errorf("galleries are %v, were %v", spare, before)
		}
	}
}
