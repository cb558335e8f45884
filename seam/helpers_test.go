package seam_test

import (
	"math/rand/v2"
	"slices"
	"testing"

	"novaculite/api"
	"novaculite/seam"
)

const (
	greatest = int(^uint(0) >> 1)
	smallest = -greatest - 1
)

func list(numbers ...int) []int { return numbers }

func at(x, y int) seam.Place { return seam.Place{X: x, Y: y} }

func gallery(a, b, c int) seam.Gallery { return seam.Gallery{A: a, B: b, C: c} }

// places makes places of two numbers each.
func places(numbers ...int) []seam.Place {
	var out []seam.Place
	for pair := range slices.Chunk(numbers, 2) {
		out = append(out, at(pair[0], pair[1]))
	}
	return out
}

// galleries makes galleries of three numbers each.
func galleries(numbers ...int) []seam.Gallery {
	var out []seam.Gallery
	for three := range slices.Chunk(numbers, 3) {
		out = append(out, gallery(three[0], three[1], three[2]))
	}
	return out
}

func hill(size int, numbers ...int) seam.Hill {
	return seam.Hill{Size: size, Galleries: galleries(numbers...)}
}

// hillH, hillK and pointsP are the chapter's H, K and P.
func hillH() seam.Hill { return hill(4, 1, 1, 3, -1, 0, -2, 0, -1, -1) }

func hillK() seam.Hill { return hill(3, 1, 1, 1, -1, 0, -1, 0, -1, -1) }

func pointsP() []seam.Place { return places(0, 0, 0, 4, 1, 1, 4, 0, 4, 4) }

// square returns all places of a square with its smallest place at 0 0.
func square(size int) []seam.Place {
	var out []seam.Place
	for x := range size {
		for y := range size {
			out = append(out, at(x, y))
		}
	}
	return out
}

func wantErrno(t *testing.T, call string, got, want api.Errno) {
	t.Helper()
	if got != want {
		t.Errorf("%s: error %d, want %d", call, got, want)
	}
}

func wantNumber(t *testing.T, call string, got int, e api.Errno, want int, wantE api.Errno) {
	t.Helper()
	if got != want || e != wantE {
		t.Errorf("%s: %d with error %d, want %d with %d", call, got, e, want, wantE)
	}
}

func wantList[E comparable](t *testing.T, call string, got []E, e api.Errno, want []E, wantE api.Errno) {
	t.Helper()
	if !slices.Equal(got, want) || e != wantE {
		t.Errorf("%s: %v with error %d, want %v with %d", call, got, e, want, wantE)
	}
}

func wantGallery(t *testing.T, call string, got seam.Gallery, e api.Errno, want seam.Gallery, wantE api.Errno) {
	t.Helper()
	if got != want || e != wantE {
		t.Errorf("%s: %v with error %d, want %v with %d", call, got, e, want, wantE)
	}
}

func newRandom() *rand.Rand { return rand.New(rand.NewPCG(1, 2)) }

// randomGallery returns a gallery of which many places of a small hill agree, and many do not.
func randomGallery(r *rand.Rand) seam.Gallery {
	for {
		g := gallery(r.IntN(7)-3, r.IntN(7)-3, r.IntN(21)-10)
		if g.A != 0 || g.B != 0 {
			return g
		}
	}
}

func randomHill(r *rand.Rand) seam.Hill {
	h := seam.Hill{Size: 1 + r.IntN(seam.MaxSize)}
	for range r.IntN(seam.MaxGalleries - 2) {
		h.Galleries = append(h.Galleries, randomGallery(r))
	}
	return h
}

// randomPoints returns points of a square of some size.
func randomPoints(r *rand.Rand, number, size int) []seam.Place {
	all := square(size)
	r.Shuffle(len(all), func(i, j int) { all[i], all[j] = all[j], all[i] })
	return sorted(all[:min(number, len(all))])
}

func sorted(list []seam.Place) []seam.Place {
	slices.SortFunc(list, func(p, q seam.Place) int { return (p.X-q.X)*100 + p.Y - q.Y })
	return list
}
