package seam_test

import (
	"slices"

	"novaculite/seam"
)

// The functions of this file say again, in the plainest way, what the chapter
// defines; no one of them uses the package's functions.

func agree(p seam.Place, galleries ...seam.Gallery) bool {
	for _, g := range galleries {
		if g.A*p.X+g.B*p.Y > g.C {
			return false
		}
	}
	return true
}

func regionOf(size int, galleries []seam.Gallery) []seam.Place {
	var out []seam.Place
	for _, p := range square(size) {
		if agree(p, galleries...) {
			out = append(out, p)
		}
	}
	return out
}

// lists returns all ascending lists of indices below a number, shorter ones first, equally long ones by R6.
func lists(number int) [][]int {
	var out [][]int
	for mask := range 1 << number {
		var one []int
		for i := range number {
			if mask>>i&1 == 1 {
				one = append(one, i)
			}
		}
		out = append(out, one)
	}
	slices.SortFunc(out, func(a, b []int) int {
		if len(a) != len(b) {
			return len(a) - len(b)
		}
		return slices.Compare(a, b)
	})
	return out
}

// firstList returns the first of these lists that passes a test.
func firstList(number int, passes func(indices []int) bool) []int {
	for _, indices := range lists(number) {
		if passes(indices) {
			return indices
		}
	}
	return nil
}

func chosen[E any](list []E, indices []int) []E {
	var out []E
	for _, i := range indices {
		out = append(out, list[i])
	}
	return out
}

func without[E any](list []E, indices []int) []E {
	var out []E
	for i, element := range list {
		if !slices.Contains(indices, i) {
			out = append(out, element)
		}
	}
	return out
}

func side(a, b, c seam.Place) int {
	return (b.X-a.X)*(c.Y-a.Y) - (b.Y-a.Y)*(c.X-a.X)
}

func onSegment(a, b, p seam.Place) bool {
	return side(a, b, p) == 0 &&
		min(a.X, b.X) <= p.X && p.X <= max(a.X, b.X) &&
		min(a.Y, b.Y) <= p.Y && p.Y <= max(a.Y, b.Y)
}

func inTriangle(a, b, c, p seam.Place) bool {
	if side(a, b, c) == 0 {
		return onSegment(a, b, p) || onSegment(b, c, p) || onSegment(a, c, p)
	}
	one, two, three := side(a, b, p), side(b, c, p), side(c, a, p)
	return one >= 0 && two >= 0 && three >= 0 || one <= 0 && two <= 0 && three <= 0
}

// inHullOf looks for three points, of which some may be equal, with the place in their triangle.
func inHullOf(points []seam.Place, p seam.Place) bool {
	for _, a := range points {
		for _, b := range points {
			for _, c := range points {
				if inTriangle(a, b, c, p) {
					return true
				}
			}
		}
	}
	return false
}

// cross reports whether two segments have a point in common.
func cross(a, b, c, d seam.Place) bool {
	if onSegment(a, b, c) || onSegment(a, b, d) || onSegment(c, d, a) || onSegment(c, d, b) {
		return true
	}
	return side(a, b, c)*side(a, b, d) < 0 && side(c, d, a)*side(c, d, b) < 0
}

// cannotBeTold reports whether the hulls of two lists have a point in common.
func cannotBeTold(one, two []seam.Place) bool {
	for _, p := range one {
		if inHullOf(two, p) {
			return true
		}
	}
	for _, p := range two {
		if inHullOf(one, p) {
			return true
		}
	}
	for _, a := range one {
		for _, b := range one {
			for _, c := range two {
				for _, d := range two {
					if cross(a, b, c, d) {
						return true
					}
				}
			}
		}
	}
	return false
}

// depthOf uses that some points can be left on the other side of a line just if the place is not in their hull.
func depthOf(points []seam.Place, p seam.Place) int {
	most := 0
	for _, indices := range lists(len(points)) {
		if len(indices) > most && !inHullOf(chosen(points, indices), p) {
			most = len(indices)
		}
	}
	return len(points) - most
}
