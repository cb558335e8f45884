// Package seam is layer 1: see shared/doc/01-seam.md.
package seam

import (
	"math"
	"slices"

	"novaculite/api"
)

// The limits.
const (
	MaxSize      = 7
	MaxGalleries = 10
	MaxPoints    = 12
	MaxSlope     = 9
	MaxRight     = 200
)

// Place is a place of a hill.
type Place struct{ X, Y int }

// Gallery is a line: places with A X + B Y at most C agree with it.
type Gallery struct{ A, B, C int }

// Hill is a grid, and galleries.
type Hill struct {
	Size      int
	Galleries []Gallery
}

// Check returns the error of a hill.
func Check(h Hill) api.Errno {
	if h.Size < 1 || h.Size > MaxSize {
		return api.ErrRange
	}
	return checkGalleries(h.Galleries)
}

// Agrees reports whether a place agrees with all galleries.
func Agrees(h Hill, p Place) (bool, api.Errno) {
	if e := Check(h); e != api.OK {
		return false, e
	}
	if !onGrid(h.Size, p) {
		return false, api.ErrNone
	}
	return agreesWithAll(p, h.Galleries), api.OK
}

// Region returns the places that agree with all galleries.
func Region(h Hill) ([]Place, api.Errno) {
	if e := Check(h); e != api.OK {
		return nil, e
	}
	var region []Place
	for x := range h.Size {
		for y := range h.Size {
			if p := (Place{X: x, Y: y}); agreesWithAll(p, h.Galleries) {
				region = append(region, p)
			}
		}
	}
	return region, api.OK
}

// Opposite returns the opposite gallery.
func Opposite(g Gallery) (Gallery, api.Errno) {
	if e := checkGallery(g); e != api.OK {
		return Gallery{}, e
	}
	return opposite(g), api.OK
}

// Known returns what is known of one gallery more.
func Known(h Hill, g Gallery) (int, api.Errno) {
	lost, e := Loss(h, g)
	if e != api.OK {
		return 0, e
	}
	all := count(h.Size, h.Galleries)
	switch {
	case all == 0:
		return 0, api.ErrLost
	case lost == 0:
		return 1, api.OK
	case lost == all:
		return -1, api.OK
	}
	return 0, api.OK
}

// Loss returns how many places do not agree with one gallery more.
func Loss(h Hill, g Gallery) (int, api.Errno) {
	if e := Check(h); e != api.OK {
		return 0, e
	}
	if e := checkGallery(g); e != api.OK {
		return 0, e
	}
	return loss(h, g), api.OK
}

// Ask returns the gallery that halves the region best.
func Ask(h Hill, offered []Gallery) (int, api.Errno) {
	if e := Check(h); e != api.OK {
		return 0, e
	}
	if len(offered) == 0 {
		return 0, api.ErrEmpty
	}
	if e := checkGalleries(offered); e != api.OK {
		return 0, e
	}
	all := count(h.Size, h.Galleries)
	best, least := 0, math.MaxInt
	for i, g := range offered {
		lost := loss(h, g)
		if greater := max(lost, all-lost); greater < least {
			best, least = i, greater
		}
	}
	return best, api.OK
}

// Contradict returns galleries that contradict each other.
func Contradict(h Hill) ([]int, api.Errno) {
	if e := Check(h); e != api.OK {
		return nil, e
	}
	if count(h.Size, h.Galleries) > 0 {
		return nil, api.ErrClash
	}
	return shortest(h.Galleries, func(chosen, _ []Gallery) bool {
		return count(h.Size, chosen) == 0
	}), api.OK
}

// Proves checks such galleries.
func Proves(h Hill, galleries []int) api.Errno {
	if e := Check(h); e != api.OK {
		return e
	}
	before := -1
	for _, i := range galleries {
		if i < 0 || i >= len(h.Galleries) {
			return api.ErrNone
		}
		if i <= before {
			return api.ErrOrder
		}
		before = i
	}
	chosen, _ := split(h.Galleries, galleries)
	if count(h.Size, chosen) > 0 {
		return api.ErrProof
	}
	return api.OK
}

// Wrong returns the fewest galleries that must be wrong.
func Wrong(h Hill) ([]int, api.Errno) {
	if e := Check(h); e != api.OK {
		return nil, e
	}
	return shortest(h.Galleries, func(_, others []Gallery) bool {
		return count(h.Size, others) > 0
	}), api.OK
}

// Needless returns the galleries without which the region is the same.
func Needless(h Hill) ([]int, api.Errno) {
	if e := Check(h); e != api.OK {
		return nil, e
	}
	all := count(h.Size, h.Galleries)
	var needless []int
	for i := range h.Galleries {
		_, others := split(h.Galleries, []int{i})
		if count(h.Size, others) == all {
			needless = append(needless, i)
		}
	}
	return needless, api.OK
}

// Fewest returns the fewest galleries with the same region.
func Fewest(h Hill) ([]int, api.Errno) {
	if e := Check(h); e != api.OK {
		return nil, e
	}
	all := count(h.Size, h.Galleries)
	return shortest(h.Galleries, func(chosen, _ []Gallery) bool {
		return count(h.Size, chosen) == all
	}), api.OK
}

func checkGalleries(galleries []Gallery) api.Errno {
	if len(galleries) > MaxGalleries {
		return api.ErrMany
	}
	for _, g := range galleries {
		if e := checkGallery(g); e != api.OK {
			return e
		}
	}
	return api.OK
}

func checkGallery(g Gallery) api.Errno {
	switch {
	case g.A < -MaxSlope || g.A > MaxSlope:
		return api.ErrRange
	case g.B < -MaxSlope || g.B > MaxSlope:
		return api.ErrRange
	case g.C < -MaxRight-1 || g.C > MaxRight:
		return api.ErrRange
	case g.A == 0 && g.B == 0:
		return api.ErrShape
	}
	return api.OK
}

func onGrid(size int, p Place) bool {
	return p.X >= 0 && p.X < size && p.Y >= 0 && p.Y < size
}

func agrees(p Place, g Gallery) bool { return g.A*p.X+g.B*p.Y <= g.C }

func agreesWithAll(p Place, galleries []Gallery) bool {
	return !slices.ContainsFunc(galleries, func(g Gallery) bool { return !agrees(p, g) })
}

func opposite(g Gallery) Gallery { return Gallery{A: -g.A, B: -g.B, C: -g.C - 1} }

// count returns how many places of a grid agree with all galleries. Fewer
// galleries never lose a place, so two regions of which one's galleries are
// among the other's are the same just if this number is.
func count(size int, galleries []Gallery) int {
	n := 0
	for x := range size {
		for y := range size {
			if agreesWithAll(Place{X: x, Y: y}, galleries) {
				n++
			}
		}
	}
	return n
}

// loss counts with the opposite gallery, because just the places that do not
// agree with a gallery agree with its opposite.
func loss(h Hill, g Gallery) int {
	return count(h.Size, slices.Concat(h.Galleries, []Gallery{opposite(g)}))
}
