package rub_test

import (
	"math/rand/v2"
	"slices"
	"testing"

	"novaculite/api"
	"novaculite/rub"
)

const (
	greatest = int(^uint(0) >> 1)
	smallest = -greatest - 1
)

func list(numbers ...int) []int { return numbers }

func lists(lists ...[]int) [][]int { return lists }

func wantErrno(t *testing.T, call string, got, want api.Errno) {
	t.Helper()
	if got != want {
		t.Errorf("%s: error %d, want %d", call, got, want)
	}
}

func wantValue[T comparable](t *testing.T, call string, got T, e api.Errno, want T, wantE api.Errno) {
	t.Helper()
	if got != want || e != wantE {
		t.Errorf("%s: %v with error %d, want %v with %d", call, got, e, want, wantE)
	}
}

func wantPlaces(t *testing.T, call string, i, j int, e api.Errno, wantI, wantJ int, wantE api.Errno) {
	t.Helper()
	if i != wantI || j != wantJ || e != wantE {
		t.Errorf("%s: %d and %d with error %d, want %d and %d with %d", call, i, j, e, wantI, wantJ, wantE)
	}
}

func wantList(t *testing.T, call string, got []int, e api.Errno, want []int, wantE api.Errno) {
	t.Helper()
	if !slices.Equal(got, want) || e != wantE {
		t.Errorf("%s: %v with error %d, want %v with %d", call, got, e, want, wantE)
	}
}

func wantLists(t *testing.T, call string, got [][]int, e api.Errno, want [][]int, wantE api.Errno) {
	t.Helper()
	if !slices.EqualFunc(got, want, slices.Equal[[]int]) || e != wantE {
		t.Errorf("%s: %v with error %d, want %v with %d", call, got, e, want, wantE)
	}
}

func newRandom() *rand.Rand { return rand.New(rand.NewPCG(1, 2)) }

func anyOf[T any](r *rand.Rand, all []T) T { return all[r.IntN(len(all))] }

func randomRow(r *rand.Rand, number int) []int {
	row := make([]int, number)
	for i := range row {
		row[i] = r.IntN(rub.MaxThick + 1)
	}
	return descending(row)
}

func descending(row []int) []int {
	slices.Sort(row)
	slices.Reverse(row)
	return row
}

// edges returns the numbers at which an answer may change.
func edges() []int {
	return list(smallest, smallest+1, -1, 0, 1, 2, 6, 7, 8, 9, greatest-1, greatest)
}

// spoil changes a number of some lists of numbers, and leaves others as they are.
func spoil(r *rand.Rand, l []int) []int {
	if len(l) > 0 && r.IntN(3) == 0 {
		l[r.IntN(len(l))] = anyOf(r, edges())
	}
	return l
}
