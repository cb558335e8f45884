package seam_test

import (
	"testing"

	"novaculite/api"
	"novaculite/seam"
)

// The tests of this file are the rows of the chapter's table of examples.

func TestExampleRegion(t *testing.T) {
	region, e := seam.Region(hillH())
	wantList(t, "Region of H", region, e, places(2, 1), api.OK)
	region, e = seam.Region(hillK())
	wantList(t, "Region of K", region, e, nil, api.OK)
	for _, x := range []struct {
		p    seam.Place
		want bool
		e    api.Errno
	}{{at(2, 1), true, api.OK}, {at(3, 1), false, api.OK}, {at(4, 0), false, api.ErrNone}} {
		if got, e := seam.Agrees(hillH(), x.p); got != x.want || e != x.e {
			t.Errorf("Agrees of H, %v: %t with error %d, want %t with %d", x.p, got, e, x.want, x.e)
		}
	}
}

func TestExampleOppositeAndKnown(t *testing.T) {
	g, e := seam.Opposite(gallery(1, 1, 3))
	wantGallery(t, "Opposite of 1 1 3", g, e, gallery(-1, -1, -4), api.OK)
	g, e = seam.Opposite(gallery(0, 0, 1))
	wantGallery(t, "Opposite of 0 0 1", g, e, seam.Gallery{}, api.ErrShape)
	n, e := seam.Known(hillH(), gallery(1, 0, 2))
	wantNumber(t, "Known of H, 1 0 2", n, e, 1, api.OK)
	n, e = seam.Known(hillH(), gallery(1, 0, 1))
	wantNumber(t, "Known of H, 1 0 1", n, e, -1, api.OK)
	n, e = seam.Known(hillK(), gallery(1, 0, 2))
	wantNumber(t, "Known of K, 1 0 2", n, e, 0, api.ErrLost)
}

func TestExampleLossAndAsk(t *testing.T) {
	n, e := seam.Loss(hill(4), gallery(1, 1, 3))
	wantNumber(t, "Loss", n, e, 6, api.OK)
	n, e = seam.Ask(hill(4), galleries(1, 0, 0, 1, 0, 1, 0, 1, 1))
	wantNumber(t, "Ask", n, e, 1, api.OK)
	n, e = seam.Ask(hill(4), nil)
	wantNumber(t, "Ask of none", n, e, 0, api.ErrEmpty)
}

func TestExampleContradict(t *testing.T) {
	l, e := seam.Contradict(hillK())
	wantList(t, "Contradict of K", l, e, list(0, 1, 2), api.OK)
	l, e = seam.Contradict(hillH())
	wantList(t, "Contradict of H", l, e, nil, api.ErrClash)
	wantErrno(t, "Proves of K: 0, 1, 2", seam.Proves(hillK(), list(0, 1, 2)), api.OK)
	wantErrno(t, "Proves of K: 0, 1", seam.Proves(hillK(), list(0, 1)), api.ErrProof)
	wantErrno(t, "Proves of K: 1, 0", seam.Proves(hillK(), list(1, 0)), api.ErrOrder)
	wantErrno(t, "Proves of K: 3", seam.Proves(hillK(), list(3)), api.ErrNone)
}

func TestExampleWrong(t *testing.T) {
	l, e := seam.Wrong(hillK())
	wantList(t, "Wrong of K", l, e, list(0), api.OK)
	l, e = seam.Wrong(hillH())
	wantList(t, "Wrong of H", l, e, nil, api.OK)
	l, e = seam.Needless(hillH())
	wantList(t, "Needless of H", l, e, nil, api.OK)
	l, e = seam.Fewest(hillH())
	wantList(t, "Fewest of H", l, e, list(0, 1, 2), api.OK)
}

func TestExampleHull(t *testing.T) {
	h, e := seam.Hull(pointsP())
	wantList(t, "Hull of P", h, e, places(0, 0, 4, 0, 4, 4, 0, 4), api.OK)
	h, e = seam.Hull(places(0, 0, 1, 1, 2, 2))
	wantList(t, "Hull of three on a line", h, e, places(0, 0, 2, 2), api.OK)
	h, e = seam.Hull(places(3, 3))
	wantList(t, "Hull of one", h, e, places(3, 3), api.OK)
}

func TestExampleWithin(t *testing.T) {
	for _, x := range []struct {
		p    seam.Place
		want []int
		e    api.Errno
	}{
		{at(1, 1), list(2), api.OK},
		{at(2, 2), list(0, 4), api.OK},
		{at(3, 1), list(1, 3), api.OK},
		{at(2, 1), list(0, 1, 3), api.OK},
		{at(5, 0), nil, api.ErrLost},
	} {
		l, e := seam.Within(pointsP(), x.p)
		wantList(t, "Within of P", l, e, x.want, x.e)
	}
}

func TestExampleApart(t *testing.T) {
	g, e := seam.Apart(pointsP(), at(5, 0))
	wantGallery(t, "Apart of P, 5 0", g, e, gallery(1, -9, 4), api.OK)
	g, e = seam.Apart(pointsP(), at(2, 2))
	wantGallery(t, "Apart of P, 2 2", g, e, seam.Gallery{}, api.ErrClash)
}

func TestExampleDivide(t *testing.T) {
	l, e := seam.Divide(places(0, 0, 0, 4, 4, 0, 4, 4))
	wantList(t, "Divide of a square", l, e, list(0, 3), api.OK)
	l, e = seam.Divide(pointsP())
	wantList(t, "Divide of P", l, e, nil, api.ErrShape)
}

func TestExampleDepth(t *testing.T) {
	n, e := seam.Depth(pointsP(), at(2, 2))
	wantNumber(t, "Depth of P, 2 2", n, e, 2, api.OK)
	n, e = seam.Depth(pointsP(), at(6, 6))
	wantNumber(t, "Depth of P, 6 6", n, e, 0, api.OK)
	p, n, e := seam.Centre(pointsP())
	wantNumber(t, "Centre of P", n, e, 2, api.OK)
	if p != at(1, 1) {
		t.Errorf("Centre of P: %v, want 1 1", p)
	}
}

func TestExampleErrors(t *testing.T) {
	wantErrno(t, "Check of the size 8", seam.Check(hill(8)), api.ErrRange)
	wantErrno(t, "Check of 0 0 1", seam.Check(hill(4, 0, 0, 1)), api.ErrShape)
	wantErrno(t, "Check of 10 0 0", seam.Check(hill(4, 10, 0, 0)), api.ErrRange)
	wantErrno(t, "Points of none", seam.Points(nil), api.ErrEmpty)
	wantErrno(t, "Points of 0 0, 0 0", seam.Points(places(0, 0, 0, 0)), api.ErrOrder)
	wantErrno(t, "Points of 7 0", seam.Points(places(7, 0)), api.ErrNone)
}
