package grade_test

import (
	"math/rand/v2"
	"slices"
	"testing"

	"novaculite/api"
	"novaculite/grade"
)

const (
	greatest = int(^uint(0) >> 1)
	smallest = -greatest - 1
)

func list(numbers ...int) []int { return numbers }

// pairs returns numbers two by two.
func pairs(numbers ...int) [][2]int {
	var all [][2]int
	for two := range slices.Chunk(numbers, 2) {
		all = append(all, [2]int{two[0], two[1]})
	}
	return all
}

func order(stones int, sharper ...int) grade.Order {
	return grade.Order{Stones: stones, Sharper: pairs(sharper...)}
}

func sharper(a, b int) grade.Claim { return grade.Claim{A: a, B: b, Sharper: true} }

func like(a, b int) grade.Claim { return grade.Claim{A: a, B: b} }

func claims(claims ...grade.Claim) []grade.Claim { return claims }

// The chapter's orders.

func orderO() grade.Order { return order(4, 0, 1, 2, 3) }

func orderP() grade.Order { return order(4, 0, 1, 1, 2, 0, 2) }

func orderQ() grade.Order { return order(4, 0, 2, 0, 3, 1, 3) }

func orderW() grade.Order { return order(3, 0, 2, 1, 2) }

func wantErrno(t *testing.T, call string, got, want api.Errno) {
	t.Helper()
	if got != want {
		t.Errorf("%s: error %d, want %d", call, got, want)
	}
}

func wantValue[T comparable](t *testing.T, call string, got T, e api.Errno, want T, wantE api.Errno) {
	t.Helper()
	if got != want || e != wantE {
		t.Errorf("%s: %v with error %d, want %v with %d", call, got, e, want, wantE)
	}
}

func wantList[T comparable](t *testing.T, call string, got []T, e api.Errno, want []T, wantE api.Errno) {
	t.Helper()
	if !slices.Equal(got, want) || e != wantE {
		t.Errorf("%s: %v with error %d, want %v with %d", call, got, e, want, wantE)
	}
}

func wantOrder(t *testing.T, call string, got grade.Order, e api.Errno, want grade.Order, wantE api.Errno) {
	t.Helper()
	wantValue(t, call, got.Stones, e, want.Stones, wantE)
	wantList(t, call, got.Sharper, e, want.Sharper, wantE)
}

// errorUnless returns an error unless there is a result.
func errorUnless(is bool, e api.Errno) api.Errno {
	if is {
		return api.OK
	}
	return e
}

func newRandom() *rand.Rand { return rand.New(rand.NewPCG(1, 2)) }

func anyOf[T any](r *rand.Rand, all []T) T { return all[r.IntN(len(all))] }

// edges returns the numbers at which an answer may change.
func edges() []int {
	return list(smallest, -1, 0, 1, 2, 3, 4, 5, 6, 8, 9, 10, 49, 50, 51, greatest)
}

func randomNumbers(r *rand.Rand, number, below int) []int {
	numbers := make([]int, number)
	for i := range numbers {
		numbers[i] = r.IntN(below)
	}
	return numbers
}

func randomIntervals(r *rand.Rand, number, below int) [][2]int {
	intervals := make([][2]int, number)
	for i := range intervals {
		a, b := r.IntN(below), r.IntN(below)
		intervals[i] = [2]int{min(a, b), max(a, b)}
	}
	return intervals
}

func randomClaims(r *rand.Rand, stones, number int) []grade.Claim {
	if stones == 1 {
		return nil
	}
	var all []grade.Claim
	for range number {
		two := r.Perm(stones)
		all = append(all, grade.Claim{A: two[0], B: two[1], Sharper: r.IntN(2) == 0})
	}
	return all
}

// randomJudged returns an order of so many stones, that has numbers more often
// than one of a table taken at random.
func randomJudged(r *rand.Rand, stones int) judged {
	if r.IntN(2) == 0 {
		return judged{stones, tableOfNumbers(1+r.IntN(4), randomNumbers(r, stones, 8))}
	}
	return anyOf(r, allJudged()[stones])
}
