package rub_test

import (
	"sync"
	"testing"

	"novaculite/api"
	"novaculite/rub"
)

// allFamilies returns the families of all numbers of stones and sums.
var allFamilies = sync.OnceValue(func() []family {
	var families []family
	for number := 1; number <= rub.MaxStones; number++ {
		families = append(families, familiesOf(number)...)
	}
	return families
})

// forAllPairs tells a check of all families, and of all pairs of their rows.
func forAllPairs(t *testing.T, check func(f family, a, b int)) {
	t.Helper()
	for _, f := range allFamilies() {
		for a := range f.rows {
			for b := range f.rows {
				check(f, a, b)
				if t.Failed() {
					t.Fatalf("rows %v and %v", f.rows[a], f.rows[b])
				}
			}
		}
	}
}

func TestBecomesWhyProves(t *testing.T) { // P5.4, P5.11
	forAllPairs(t, func(f family, a, b int) {
		is, e := rub.Becomes(f.rows[a], f.rows[b])
		wantValue(t, "Becomes", is, e, f.can(a, b), api.OK)
		k, e := rub.Why(f.rows[a], f.rows[b])
		if f.can(a, b) {
			wantValue(t, "Why", k, e, 0, api.ErrClash)
			return
		}
		wantValue(t, "Why", k, e, f.why(a, b), api.OK)
		wantErrno(t, "Proves of Why", rub.Proves(f.rows[a], f.rows[b], k), api.OK)
	})
}

func TestProves(t *testing.T) { // P5.4, P5.11
	forAllPairs(t, func(f family, a, b int) {
		for k := range f.number + 1 {
			want := api.ErrProof
			if riseOf(f.rows[a], k) < riseOf(f.rows[b], k) {
				want = api.OK
			}
			e := rub.Proves(f.rows[a], f.rows[b], k)
			wantErrno(t, "Proves", e, want)
			if e == api.OK && f.can(a, b) {
				t.Errorf("%d is accepted, but the row can be reached", k)
			}
		}
	})
	for _, row := range allRows(4) {
		for _, k := range list(smallest, -1, len(row)+1, greatest) {
			wantErrno(t, "Proves", rub.Proves(row, row, k), api.ErrNone)
		}
	}
}

func TestFewestFirst(t *testing.T) { // P5.5
	forAllPairs(t, func(f family, a, b int) {
		number, e := rub.Fewest(f.rows[a], f.rows[b])
		i, j, firstE := rub.First(f.rows[a], f.rows[b])
		switch {
		case !f.can(a, b):
			wantValue(t, "Fewest", number, e, 0, api.ErrLost)
			wantPlaces(t, "First", i, j, firstE, 0, 0, api.ErrLost)
		case a == b:
			wantValue(t, "Fewest", number, e, 0, api.OK)
			wantPlaces(t, "First", i, j, firstE, 0, 0, api.ErrClash)
		default:
			wantValue(t, "Fewest", number, e, f.away[a][b], api.OK)
			wantI, wantJ := f.first(a, b)
			wantPlaces(t, "First", i, j, firstE, wantI, wantJ, api.OK)
		}
	})
}

func TestFirstAgainAndAgain(t *testing.T) { // P5.5
	r := newRandom()
	families := allFamilies()
	for range 5000 {
		f := anyOf(r, families)
		row := anyOf(r, f.rows)
		to := anyOf(r, f.below(f.at(row)))
		number, _ := rub.Fewest(row, to)
		for ; number > 0; number-- {
			i, j, e := rub.First(row, to)
			wantErrno(t, "First", e, api.OK)
			row, e = rub.Rub(row, i, j)
			wantErrno(t, "Rub", e, api.OK)
		}
		wantList(t, "the last row", row, api.OK, to, api.OK)
	}
}

func TestMeetJoin(t *testing.T) { // P5.8
	forAllPairs(t, func(f family, a, b int) {
		row, e := rub.Meet(f.rows[a], f.rows[b])
		wantLists(t, "Meet", lists(row), e, f.meets(a, b), api.OK)
		row, e = rub.Join(f.rows[a], f.rows[b])
		wantLists(t, "Join", lists(row), e, f.joins(a, b), api.OK)
	})
}
