package seam_test

import (
	"slices"
	"testing"

	"novaculite/api"
	"novaculite/seam"
)

func TestFourGalleriesSuffice(t *testing.T) { // P1.11
	r := newRandom()
	most := 0
	for range 1500 {
		h := randomHill(r)
		l, e := seam.Contradict(h)
		if e != api.OK {
			continue
		}
		most = max(most, len(l))
		wantErrno(t, "Proves of what Contradict returns", seam.Proves(h, l), api.OK)
		for i := range l {
			wantErrno(t, "Proves of one less", seam.Proves(h, slices.Delete(slices.Clone(l), i, i+1)), api.ErrProof)
		}
	}
	l, e := seam.Contradict(hill(2, -1, 1, 0, 1, 1, 1, 1, -1, 0, -1, -1, -1))
	wantList(t, "Contradict of four", l, e, list(0, 1, 2, 3), api.OK)
	if most < 3 || most > 4 {
		t.Errorf("Contradict returns up to %d galleries", most)
	}
}

func TestThreePointsSuffice(t *testing.T) { // P1.12, P1.18
	r := newRandom()
	for range 200 {
		points := randomPoints(r, 1+r.IntN(seam.MaxPoints), 2+r.IntN(6))
		for _, p := range square(seam.MaxSize) {
			l, e := seam.Within(points, p)
			g, f := seam.Apart(points, p)
			if len(l) > 3 || (e == api.OK) == (f == api.OK) {
				t.Fatalf("%v, %v: Within %v with error %d, Apart with %d", points, p, l, e, f)
			}
			if e == api.OK && !inHullOf(chosen(points, l), p) {
				t.Fatalf("%v is not in the hull of %v of %v", p, l, points)
			}
			if f == api.OK && (agree(p, g) || !allAgree(points, g)) {
				t.Fatalf("%v does not tell %v from %v", g, p, points)
			}
			depth, _ := seam.Depth(points, p)
			if (depth >= 1) != (e == api.OK) {
				t.Fatalf("%v, %v: depth %d, Within with error %d", points, p, depth, e)
			}
		}
	}
}

func TestEachFourPointsHaveADivision(t *testing.T) { // P1.13
	r := newRandom()
	for range 1000 {
		points := randomPoints(r, 4, seam.MaxSize)
		l, e := seam.Divide(points)
		if e != api.OK || len(l) == 0 || len(l) == 4 || l[0] != 0 || !cannotBeTold(chosen(points, l), without(points, l)) {
			t.Fatalf("Divide of %v: %v with error %d", points, l, e)
		}
		wantList(t, "Divide", l, e, divisionOf(points), api.OK)
	}
}

func TestTheMiddleIsDeep(t *testing.T) { // P1.14
	r := newRandom()
	for range 500 {
		points := randomPoints(r, 1+r.IntN(seam.MaxPoints), 2+r.IntN(6))
		if _, depth, e := seam.Centre(points); 4*depth < len(points) || e != api.OK {
			t.Fatalf("Centre of %v: depth %d with error %d", points, depth, e)
		}
	}
}

func TestMoreGalleriesFewerPlaces(t *testing.T) { // P1.15
	r := newRandom()
	for range 500 {
		h, g := randomHill(r), randomGallery(r)
		opposite, _ := seam.Opposite(g)
		with := func(g seam.Gallery) []seam.Place {
			region, _ := seam.Region(seam.Hill{Size: h.Size, Galleries: append(slices.Clone(h.Galleries), g)})
			return region
		}
		region, _ := seam.Region(h)
		one, two := with(g), with(opposite)
		if both := sorted(slices.Concat(one, two)); !slices.Equal(both, region) {
			t.Fatalf("%v, %v: %v and %v, together %v", h, g, one, two, region)
		}
		lost, _ := seam.Loss(h, g)
		rest, _ := seam.Loss(h, opposite)
		if lost != len(two) || rest != len(one) {
			t.Fatalf("%v, %v: %d and %d are lost of %d and %d", h, g, lost, rest, len(two), len(one))
		}
	}
}

func TestFewestAndWrong(t *testing.T) { // P1.16
	r := newRandom()
	for range 500 {
		h := randomHill(r)
		region, _ := seam.Region(h)
		fewest, _ := seam.Fewest(h)
		left := seam.Hill{Size: h.Size, Galleries: chosen(h.Galleries, fewest)}
		same, _ := seam.Region(left)
		needless, e := seam.Needless(left)
		wantList(t, "Needless of Fewest", needless, e, nil, api.OK)
		wantList(t, "Region of Fewest", same, e, region, api.OK)
		wrong, _ := seam.Wrong(h)
		if (len(wrong) == 0) != (len(region) > 0) {
			t.Fatalf("Wrong of %v: %v, and the region is %v", h, wrong, region)
		}
		rest, e := seam.Region(seam.Hill{Size: h.Size, Galleries: without(h.Galleries, wrong)})
		if len(rest) == 0 || e != api.OK {
			t.Fatalf("without %v nothing is left of %v", wrong, h)
		}
	}
}

func mirroredGallery(g seam.Gallery, size int) seam.Gallery {
	return gallery(-g.A, g.B, g.C-g.A*(size-1))
}

func mirroredHill(h seam.Hill) seam.Hill {
	out := seam.Hill{Size: h.Size}
	for _, g := range h.Galleries {
		out.Galleries = append(out.Galleries, mirroredGallery(g, h.Size))
	}
	return out
}

func mirroredPlaces(list []seam.Place, size int) []seam.Place {
	var out []seam.Place
	for _, p := range list {
		out = append(out, at(size-1-p.X, p.Y))
	}
	return sorted(out)
}

func TestMirroredHills(t *testing.T) { // P1.17
	r := newRandom()
	for range 300 {
		h, g := randomHill(r), randomGallery(r)
		m, mg := mirroredHill(h), mirroredGallery(g, h.Size)
		region, e := seam.Region(h)
		mirrored, _ := seam.Region(m)
		wantList(t, "Region mirrored", mirrored, e, mirroredPlaces(region, h.Size), api.OK)
		for _, p := range square(h.Size) {
			one, _ := seam.Agrees(h, p)
			if two, _ := seam.Agrees(m, at(h.Size-1-p.X, p.Y)); one != two {
				t.Fatalf("Agrees of %v, %v: %t, mirrored %t", h, p, one, two)
			}
		}
		for _, call := range []func(seam.Hill) ([]int, api.Errno){seam.Contradict, seam.Wrong, seam.Needless, seam.Fewest} {
			one, e := call(h)
			two, f := call(m)
			wantList(t, "mirrored", two, f, one, e)
		}
		one, e := seam.Known(h, g)
		two, f := seam.Known(m, mg)
		wantNumber(t, "Known mirrored", two, f, one, e)
		one, e = seam.Loss(h, g)
		two, f = seam.Loss(m, mg)
		wantNumber(t, "Loss mirrored", two, f, one, e)
	}
}

func TestOppositeOfTheOpposite(t *testing.T) { // P1.17
	for a := -seam.MaxSlope; a <= seam.MaxSlope; a++ {
		for b := -seam.MaxSlope; b <= seam.MaxSlope; b++ {
			for c := -seam.MaxRight - 1; c <= seam.MaxRight && (a != 0 || b != 0); c++ {
				g := gallery(a, b, c)
				o, e := seam.Opposite(g)
				back, f := seam.Opposite(o)
				if back != g || e != api.OK || f != api.OK || agree(at(3, 5), g) == agree(at(3, 5), o) {
					t.Fatalf("Opposite of %v: %v with error %d, and of this %v with %d", g, o, e, back, f)
				}
			}
		}
	}
}

func TestMirroredPoints(t *testing.T) { // P1.17
	r := newRandom()
	for range 200 {
		points := randomPoints(r, 1+r.IntN(seam.MaxPoints), 2+r.IntN(6))
		mirrored := mirroredPlaces(points, seam.MaxSize)
		one, _ := seam.Hull(points)
		two, e := seam.Hull(mirrored)
		wantList(t, "Hull mirrored", sorted(two), e, mirroredPlaces(one, seam.MaxSize), api.OK)
		_, deepest, _ := seam.Centre(points)
		_, n, e := seam.Centre(mirrored)
		wantNumber(t, "Centre mirrored", n, e, deepest, api.OK)
		p := at(r.IntN(seam.MaxSize), r.IntN(seam.MaxSize))
		depth, _ := seam.Depth(points, p)
		n, e = seam.Depth(mirrored, at(seam.MaxSize-1-p.X, p.Y))
		wantNumber(t, "Depth mirrored", n, e, depth, api.OK)
	}
}

func TestCornersHaveTheSameHull(t *testing.T) { // P1.18
	r := newRandom()
	for range 200 {
		points := randomPoints(r, 1+r.IntN(seam.MaxPoints), 2+r.IntN(6))
		hull, _ := seam.Hull(points)
		corners := sorted(slices.Clone(hull))
		again, e := seam.Hull(corners)
		wantList(t, "Hull of the corners", again, e, hull, api.OK)
		for _, p := range square(seam.MaxSize) {
			_, e := seam.Within(points, p)
			_, f := seam.Within(corners, p)
			wantErrno(t, "Within of the corners", f, e)
		}
	}
}
