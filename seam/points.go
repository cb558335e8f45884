package seam

import (
	"iter"
	"math"
	"slices"

	"novaculite/api"
)

// Points returns the error of points.
func Points(points []Place) api.Errno {
	if len(points) == 0 {
		return api.ErrEmpty
	}
	if len(points) > MaxPoints {
		return api.ErrMany
	}
	for i, p := range points {
		if !onGrid(MaxSize, p) {
			return api.ErrNone
		}
		if i > 0 && !before(points[i-1], p) {
			return api.ErrOrder
		}
	}
	return api.OK
}

// Hull returns the corners of points.
func Hull(points []Place) ([]Place, api.Errno) {
	if e := Points(points); e != api.OK {
		return nil, e
	}
	var corners []Place
	for i, p := range points {
		_, others := split(points, []int{i})
		if _, told := separate(others, []Place{p}); told {
			corners = append(corners, p)
		}
	}
	// Seen from the smallest corner all others lie within half a turn, so that
	// the sides on which they lie of each other order them.
	first := corners[0]
	slices.SortFunc(corners[1:], func(p, q Place) int { return turn(first, q, p) })
	return corners, api.OK
}

// Within returns points in whose hull a place is.
func Within(points []Place, p Place) ([]int, api.Errno) {
	if e := checkWithPlace(points, p); e != api.OK {
		return nil, e
	}
	if !inHull(points, p) {
		return nil, api.ErrLost
	}
	return shortest(points, func(chosen, _ []Place) bool { return inHull(chosen, p) }), api.OK
}

// Apart returns a gallery that tells points and a place apart.
func Apart(points []Place, p Place) (Gallery, api.Errno) {
	if e := checkWithPlace(points, p); e != api.OK {
		return Gallery{}, e
	}
	g, told := separate(points, []Place{p})
	if !told {
		return Gallery{}, api.ErrClash
	}
	return g, api.OK
}

// Divide returns a division of four points.
func Divide(points []Place) ([]int, api.Errno) {
	if e := Points(points); e != api.OK {
		return nil, e
	}
	if len(points) != 4 {
		return nil, api.ErrShape
	}
	for _, division := range [][]int{{0}, {0, 1}, {0, 1, 2}, {0, 1, 3}, {0, 2}, {0, 2, 3}, {0, 3}} {
		chosen, others := split(points, division)
		if _, told := separate(chosen, others); !told {
			return division, api.OK
		}
	}
	return nil, api.OK // never: each four points have a division (P1.13)
}

// Depth returns the depth of a place.
func Depth(points []Place, p Place) (int, api.Errno) {
	if e := checkWithPlace(points, p); e != api.OK {
		return 0, e
	}
	return depth(points, p), api.OK
}

// Centre returns the deepest place, and its depth.
func Centre(points []Place) (Place, int, api.Errno) {
	if e := Points(points); e != api.OK {
		return Place{}, 0, e
	}
	centre, deepest := Place{}, -1
	for x := range MaxSize {
		for y := range MaxSize {
			p := Place{X: x, Y: y}
			if d := depth(points, p); d > deepest {
				centre, deepest = p, d
			}
		}
	}
	return centre, deepest, api.OK
}

func checkWithPlace(points []Place, p Place) api.Errno {
	if e := Points(points); e != api.OK {
		return e
	}
	if !onGrid(MaxSize, p) {
		return api.ErrNone
	}
	return api.OK
}

// before reports whether p is smaller than q.
func before(p, q Place) bool {
	return p.X < q.X || p.X == q.X && p.Y < q.Y
}

// turn returns more than 0 if q lies to the left of the line from o to p, and
// less than 0 if it lies to the right.
func turn(o, p, q Place) int {
	return (p.X-o.X)*(q.Y-o.Y) - (p.Y-o.Y)*(q.X-o.X)
}

// slopes ranges over all A and B from -most to most, not both 0, in ascending order.
func slopes(most int) iter.Seq2[int, int] {
	return func(yield func(int, int) bool) {
		for a := -most; a <= most; a++ {
			for b := -most; b <= most; b++ {
				if (a != 0 || b != 0) && !yield(a, b) {
					return
				}
			}
		}
	}
}

// separate returns the first gallery with which all places of one list agree, and
// none of another one, and whether there is one. Slopes up to MaxSlope are
// enough for galleries of any size: if two lists can be told apart, then by a
// line along or across one through two of their places, and its slopes are
// less than MaxSize.
func separate(inside, outside []Place) (Gallery, bool) {
	for a, b := range slopes(MaxSlope) {
		g := Gallery{A: a, B: b, C: math.MinInt}
		for _, p := range inside {
			g.C = max(g.C, a*p.X+b*p.Y)
		}
		if !slices.ContainsFunc(outside, func(p Place) bool { return agrees(p, g) }) {
			return g, true
		}
	}
	return Gallery{}, false
}

func inHull(points []Place, p Place) bool {
	_, told := separate(points, []Place{p})
	return !told
}

// depth tries a line through p in each direction that matters. If a line is
// turned around p, the points on its side change only where it meets one of
// them, and there its slopes are less than MaxSize; just between two such
// lines lies one whose slopes are their sums.
func depth(points []Place, p Place) int {
	least := len(points)
	for a, b := range slopes(2 * (MaxSize - 1)) {
		g := Gallery{A: a, B: b, C: a*p.X + b*p.Y}
		n := 0
		for _, q := range points {
			if agrees(q, g) {
				n++
			}
		}
		least = min(least, n)
	}
	return least
}
