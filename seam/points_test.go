package seam_test

import (
	"fmt"
	"slices"
	"testing"

	"novaculite/api"
	"novaculite/seam"
)

func TestPoints(t *testing.T) { // P1.7
	for i, x := range []struct {
		points []seam.Place
		want   api.Errno
	}{
		{places(0, 0), api.OK},
		{places(0, 6, 6, 0), api.OK},
		{square(4)[:12], api.OK},
		{nil, api.ErrEmpty},
		{[]seam.Place{}, api.ErrEmpty},
		{square(4)[:13], api.ErrMany},
		{make([]seam.Place, 13), api.ErrMany},
		{places(0, 7), api.ErrNone},
		{places(7, 0), api.ErrNone},
		{places(0, -1), api.ErrNone},
		{places(-1, 0), api.ErrNone},
		{places(greatest, 0), api.ErrNone},
		{places(0, smallest), api.ErrNone},
		{places(3, 3, 2, 7), api.ErrNone},
		{places(3, 3, 3, 3), api.ErrOrder},
		{places(3, 3, 2, 6), api.ErrOrder},
		{places(3, 3, 3, 2, 7, 7), api.ErrOrder},
		{places(3, 3, 7, 7, 3, 2), api.ErrNone},
	} {
		if got := seam.Points(x.points); got != x.want {
			t.Errorf("Points %d: error %d, want %d", i, got, x.want)
		}
	}
}

func TestPointErrorsComeFirst(t *testing.T) { // P1.7
	for _, x := range []struct {
		points []seam.Place
		want   api.Errno
	}{
		{nil, api.ErrEmpty},
		{make([]seam.Place, 13), api.ErrMany},
		{places(7, 0), api.ErrNone},
		{places(1, 0, 0, 0), api.ErrOrder},
		{places(1, 0, 0, 0, 2, 0, 3, 0), api.ErrOrder},
	} {
		h, e := seam.Hull(x.points)
		wantList(t, "Hull", h, e, nil, x.want)
		l, e := seam.Divide(x.points)
		wantList(t, "Divide", l, e, nil, x.want)
		p, n, e := seam.Centre(x.points)
		wantNumber(t, "Centre", n, e, 0, x.want)
		if p != at(0, 0) {
			t.Errorf("Centre: %v besides an error", p)
		}
		for _, p := range places(0, 0, 7, 0) {
			l, e = seam.Within(x.points, p)
			wantList(t, "Within", l, e, nil, x.want)
			g, e := seam.Apart(x.points, p)
			wantGallery(t, "Apart", g, e, seam.Gallery{}, x.want)
			n, e = seam.Depth(x.points, p)
			wantNumber(t, "Depth", n, e, 0, x.want)
		}
	}
}

func TestPlaceOfFunctions(t *testing.T) { // P1.7
	for _, p := range places(7, 0, 0, 7, -1, 0, 0, -1, greatest, greatest, smallest, smallest) {
		l, e := seam.Within(pointsP(), p)
		wantList(t, "Within", l, e, nil, api.ErrNone)
		g, e := seam.Apart(pointsP(), p)
		wantGallery(t, "Apart", g, e, seam.Gallery{}, api.ErrNone)
		n, e := seam.Depth(pointsP(), p)
		wantNumber(t, "Depth", n, e, 0, api.ErrNone)
	}
}

func TestHull(t *testing.T) { // P1.7
	for _, x := range []struct{ points, want []seam.Place }{
		{places(5, 6), places(5, 6)},
		{places(0, 6, 6, 0), places(0, 6, 6, 0)},
		{places(2, 1, 2, 3), places(2, 1, 2, 3)},
		{places(2, 1, 2, 3, 2, 6), places(2, 1, 2, 6)},
		{places(0, 0, 0, 1, 1, 0, 1, 1), places(0, 0, 1, 0, 1, 1, 0, 1)},
		{places(0, 1, 1, 0, 2, 1), places(0, 1, 1, 0, 2, 1)},
		{places(0, 1, 1, 2, 2, 1), places(0, 1, 2, 1, 1, 2)},
		{square(3), places(0, 0, 2, 0, 2, 2, 0, 2)},
		{places(0, 2, 1, 0, 1, 4, 2, 0, 3, 1, 3, 4), places(0, 2, 1, 0, 2, 0, 3, 1, 3, 4, 1, 4)},
	} {
		h, e := seam.Hull(x.points)
		wantList(t, "Hull", h, e, x.want, api.OK)
	}
	r := newRandom()
	for range 1000 {
		points := randomPoints(r, 1+r.IntN(seam.MaxPoints), 2+r.IntN(6))
		h, e := seam.Hull(points)
		var corners []seam.Place
		for i, p := range points {
			if !inHullOf(without(points, list(i)), p) {
				corners = append(corners, p)
			}
		}
		wantList(t, "corners in order", sorted(slices.Clone(h)), e, corners, api.OK)
		for i := range len(h) {
			if len(h) > 2 && side(h[i], h[(i+1)%len(h)], h[(i+2)%len(h)]) <= 0 {
				t.Fatalf("Hull of %v: %v is not counterclockwise", points, h)
			}
		}
		if h[0] != points[0] {
			t.Fatalf("Hull of %v begins with %v", points, h[0])
		}
	}
}

func TestWithin(t *testing.T) { // P1.8
	for _, x := range []struct {
		points []seam.Place
		p      seam.Place
		want   []int
		e      api.Errno
	}{
		{places(3, 3), at(3, 3), list(0), api.OK},
		{places(3, 3), at(3, 4), nil, api.ErrLost},
		{places(0, 0, 6, 6), at(2, 2), list(0, 1), api.OK},
		{places(0, 0, 4, 4), at(5, 5), nil, api.ErrLost},
		{places(0, 0, 1, 1, 5, 5, 6, 6), at(3, 3), list(0, 2), api.OK},
		{places(0, 0, 0, 6, 6, 0), at(2, 2), list(0, 1, 2), api.OK},
		{places(0, 0, 0, 6, 6, 0), at(4, 3), nil, api.ErrLost},
		{square(3), at(1, 1), list(4), api.OK},
	} {
		l, e := seam.Within(x.points, x.p)
		wantList(t, "Within", l, e, x.want, x.e)
	}
	r := newRandom()
	for range 150 {
		points := randomPoints(r, 1+r.IntN(6), 2+r.IntN(6))
		for _, p := range square(seam.MaxSize) {
			want, wantE := []int(nil), api.ErrLost
			if inHullOf(points, p) {
				wantE = api.OK
				want = firstList(len(points), func(indices []int) bool {
					return inHullOf(chosen(points, indices), p)
				})
			}
			l, e := seam.Within(points, p)
			wantList(t, "Within", l, e, want, wantE)
		}
	}
}

// firstApart tries all galleries, one after the other.
func firstApart(points []seam.Place, p seam.Place) (seam.Gallery, api.Errno) {
	for a := -seam.MaxSlope; a <= seam.MaxSlope; a++ {
		for b := -seam.MaxSlope; b <= seam.MaxSlope; b++ {
			for c := -110; c <= 110; c++ { // A X + B Y is from -108 to 108
				g := gallery(a, b, c)
				if (a != 0 || b != 0) && !agree(p, g) && allAgree(points, g) {
					return g, api.OK
				}
			}
		}
	}
	return seam.Gallery{}, api.ErrClash
}

func allAgree(points []seam.Place, g seam.Gallery) bool {
	return !slices.ContainsFunc(points, func(p seam.Place) bool { return !agree(p, g) })
}

func TestApart(t *testing.T) { // P1.8
	for _, x := range []struct {
		points []seam.Place
		p      seam.Place
		want   seam.Gallery
		e      api.Errno
	}{
		{places(3, 3), at(3, 3), seam.Gallery{}, api.ErrClash},
		{places(3, 3), at(6, 6), gallery(-8, 9, 3), api.OK},
		{places(3, 3), at(0, 0), gallery(-9, -9, -54), api.OK},
		{places(0, 0, 0, 6, 6, 0), at(6, 6), gallery(1, 1, 6), api.OK},
		{places(0, 0, 6, 6), at(3, 3), seam.Gallery{}, api.ErrClash},
	} {
		g, e := seam.Apart(x.points, x.p)
		wantGallery(t, "Apart", g, e, x.want, x.e)
	}
	r := newRandom()
	for range 300 {
		points := randomPoints(r, 1+r.IntN(seam.MaxPoints), 2+r.IntN(6))
		p := at(r.IntN(seam.MaxSize), r.IntN(seam.MaxSize))
		want, wantE := firstApart(points, p)
		g, e := seam.Apart(points, p)
		wantGallery(t, "Apart", g, e, want, wantE)
	}
}

func TestDivide(t *testing.T) { // P1.9
	for _, x := range []struct {
		points []seam.Place
		want   []int
		e      api.Errno
	}{
		{places(0, 0, 0, 3, 1, 1, 3, 0), list(0, 1, 3), api.OK},
		{places(0, 3, 1, 1, 1, 5, 2, 3), list(0, 3), api.OK},
		{places(0, 0, 1, 3, 2, 2, 3, 0), list(0, 2), api.OK},
		{places(0, 0, 0, 1, 0, 2, 0, 3), list(0, 1, 3), api.OK},
		{places(0, 0, 1, 0, 1, 1, 2, 0), list(0, 2, 3), api.OK},
		{places(0, 0, 0, 3, 3, 0), nil, api.ErrShape},
		{square(3), nil, api.ErrShape},
	} {
		l, e := seam.Divide(x.points)
		wantList(t, "Divide", l, e, x.want, x.e)
	}
}

// divisionOf tries all lists with the index 0 but not all of four, in the order of R6.
func divisionOf(points []seam.Place) []int {
	all := lists(4)
	slices.SortFunc(all, slices.Compare)
	for _, indices := range all {
		if len(indices) > 0 && len(indices) < 4 && indices[0] == 0 && cannotBeTold(chosen(points, indices), without(points, indices)) {
			return indices
		}
	}
	return nil
}

func TestDivideAllFoursOfASquare(t *testing.T) { // P1.9, P1.13
	grid := square(4)
	seen := map[string]bool{}
	for _, indices := range lists(len(grid)) {
		if len(indices) != 4 {
			continue
		}
		points := chosen(grid, indices)
		want := divisionOf(points)
		if want == nil {
			t.Fatalf("no division of %v", points)
		}
		l, e := seam.Divide(points)
		wantList(t, "Divide", l, e, want, api.OK)
		seen[fmt.Sprint(l)] = true
	}
	// Neither the smallest point nor the greatest one is between others.
	for _, division := range []string{"[0 1 3]", "[0 2]", "[0 2 3]", "[0 3]"} {
		if !seen[division] {
			t.Errorf("no points have the division %s", division)
		}
	}
}

func TestDepth(t *testing.T) { // P1.10
	for _, x := range []struct {
		points []seam.Place
		p      seam.Place
		want   int
	}{
		{places(3, 3), at(3, 3), 1},
		{places(3, 3), at(3, 4), 0},
		{places(0, 0, 1, 1, 2, 2), at(1, 1), 2},
		{places(0, 0, 1, 1, 2, 2), at(0, 1), 0},
		{square(3), at(1, 1), 5},
		{square(3), at(1, 2), 2},
		{square(3), at(0, 0), 1},
	} {
		n, e := seam.Depth(x.points, x.p)
		wantNumber(t, "Depth", n, e, x.want, api.OK)
	}
	r := newRandom()
	for range 100 {
		points := randomPoints(r, 1+r.IntN(9), 2+r.IntN(6))
		for range 10 {
			p := at(r.IntN(seam.MaxSize), r.IntN(seam.MaxSize))
			n, e := seam.Depth(points, p)
			wantNumber(t, "Depth", n, e, depthOf(points, p), api.OK)
		}
	}
}

func TestCentre(t *testing.T) { // P1.10
	for _, x := range []struct {
		points []seam.Place
		want   seam.Place
		depth  int
	}{
		{places(3, 3), at(3, 3), 1},
		{places(0, 0, 0, 6, 6, 0), at(0, 0), 1},
		{places(2, 5, 2, 6), at(2, 5), 1},
		{places(0, 0, 1, 1, 2, 2), at(1, 1), 2},
		{square(3), at(1, 1), 5},
		{places(4, 4, 4, 6, 5, 5, 6, 4, 6, 6), at(5, 5), 3},
	} {
		p, n, e := seam.Centre(x.points)
		if p != x.want || n != x.depth || e != api.OK {
			t.Errorf("Centre of %v: %v, %d with error %d, want %v, %d", x.points, p, n, e, x.want, x.depth)
		}
	}
	r := newRandom()
	for range 300 {
		points := randomPoints(r, 1+r.IntN(seam.MaxPoints), 2+r.IntN(6))
		want, deepest := at(0, 0), -1
		for _, p := range square(seam.MaxSize) {
			if n, _ := seam.Depth(points, p); n > deepest {
				want, deepest = p, n
			}
		}
		p, n, e := seam.Centre(points)
		if p != want || n != deepest || e != api.OK {
			t.Errorf("Centre of %v: %v, %d with error %d, want %v, %d", points, p, n, e, want, deepest)
		}
	}
}

func TestPointsKeepArguments(t *testing.T) { // R4, P1
	r := newRandom()
	for range 30 {
		points := randomPoints(r, 4, seam.MaxSize)
		before := slices.Clone(points)
		one, _ := seam.Hull(points)
		kept := slices.Clone(one)
		clear(one)
		if two, _ := seam.Hull(points); !slices.Equal(two, kept) {
			t.Errorf("Hull again: %v, first %v", two, kept)
		}
		for _, call := range []func() []int{
			func() []int { l, _ := seam.Divide(points); return l },
			func() []int { l, _ := seam.Within(points, points[3]); return l },
		} {
			one := call()
			kept := slices.Clone(one)
			clear(one)
			if two := call(); !slices.Equal(two, kept) {
				t.Errorf("second call: %v, first %v", two, kept)
			}
		}
		seam.Centre(points)
		seam.Apart(points, at(0, 0))
		seam.Depth(points, at(0, 0))
		if !slices.Equal(points, before) {
			t.Errorf("points are %v, were %v", points, before)
		}
	}
}
