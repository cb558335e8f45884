package rub_test

import (
	"testing"

	"novaculite/api"
	"novaculite/rub"
)

// forAllRows tells a check of all families, and of all their rows.
func forAllRows(t *testing.T, check func(f family, a int)) {
	t.Helper()
	for _, f := range allFamilies() {
		for a := range f.rows {
			check(f, a)
			if t.Failed() {
				t.Fatalf("row %v", f.rows[a])
			}
		}
	}
}

func TestBelowSteps(t *testing.T) { // P5.6
	forAllRows(t, func(f family, a int) {
		below, e := rub.Below(f.rows[a])
		wantLists(t, "Below", below, e, f.below(a), api.OK)
		var want [][]int
		for _, b := range f.steps[a] {
			want = append(want, f.rows[b])
		}
		steps, e := rub.Steps(f.rows[a])
		wantLists(t, "Steps", steps, e, want, api.OK)
	})
}

func TestLongest(t *testing.T) { // P5.7
	forAllPairs(t, func(f family, a, b int) {
		want, wantE := f.longest[a][b], api.OK
		if !f.can(a, b) {
			want, wantE = 0, api.ErrLost
		}
		number, e := rub.Longest(f.rows[a], f.rows[b])
		wantValue(t, "Longest", number, e, want, wantE)
	})
}

func TestCount(t *testing.T) { // P5.9
	for _, f := range allFamilies() {
		number, e := rub.Count(f.number, f.sum)
		wantValue(t, "Count", number, e, len(f.rows), api.OK)
		if t.Failed() {
			t.Fatalf("%d stones, sum %d", f.number, f.sum)
		}
	}
	for stones := 1; stones <= 6; stones++ {
		for _, sum := range list(smallest, -1, stones*8+1, greatest) {
			number, e := rub.Count(stones, sum)
			wantValue(t, "Count of a sum out of bounds", number, e, 0, api.ErrRange)
		}
	}
	for _, stones := range list(smallest, -1, 0, 7, greatest) {
		for _, sum := range list(smallest, -1, 0, 1, greatest) {
			number, e := rub.Count(stones, sum)
			wantValue(t, "Count of stones out of bounds", number, e, 0, api.ErrRange)
		}
	}
}
