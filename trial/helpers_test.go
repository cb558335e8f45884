package trial_test

import (
	"math/rand/v2"
	"slices"
	"testing"

	"novaculite/api"
	"novaculite/trial"
)

const (
	greatest = int(^uint(0) >> 1)
	smallest = -greatest - 1
)

func list(numbers ...int) []int { return numbers }

func words(words ...string) []string { return words }

func blunt(level int) trial.Result { return trial.Result{Level: level, Blunt: true} }

func sharp(level int) trial.Result { return trial.Result{Level: level} }

func results(results ...trial.Result) []trial.Result { return results }

// six is the chapter's plan for 6 levels.
func six() []int { return list(3, 1, 2, 5, 4, 6) }

func wantErrno(t *testing.T, call string, got, want api.Errno) {
	t.Helper()
	if got != want {
		t.Errorf("%s: error %d, want %d", call, got, want)
	}
}

func wantValue[T comparable](t *testing.T, call string, got T, e api.Errno, want T, wantE api.Errno) {
	t.Helper()
	if got != want || e != wantE {
		t.Errorf("%s: %v with error %d, want %v with %d", call, got, e, want, wantE)
	}
}

func wantTwo(t *testing.T, call string, a, b int, e api.Errno, wantA, wantB int, wantE api.Errno) {
	t.Helper()
	if a != wantA || b != wantB || e != wantE {
		t.Errorf("%s: %d and %d with error %d, want %d and %d with %d", call, a, b, e, wantA, wantB, wantE)
	}
}

func wantList[T comparable](t *testing.T, call string, got []T, e api.Errno, want []T, wantE api.Errno) {
	t.Helper()
	if !slices.Equal(got, want) || e != wantE {
		t.Errorf("%s: %v with error %d, want %v with %d", call, got, e, want, wantE)
	}
}

func newRandom() *rand.Rand { return rand.New(rand.NewPCG(1, 2)) }

// randomPlan returns a plan for the levels above one, up to another one.
func randomPlan(r *rand.Rand, above, upTo int) []int {
	if above == upTo {
		return nil
	}
	level := above + 1 + r.IntN(upTo-above)
	plan := append(list(level), randomPlan(r, above, level-1)...)
	return append(plan, randomPlan(r, level, upTo)...)
}

// randomWords returns words of which each beginning that is none of them is
// continued by b and by s; all of them have one beginning.
func randomWords(r *rand.Rand, beginning string, number int) []string {
	if number == 1 {
		return words(beginning)
	}
	bluntOnes := 1 + r.IntN(number-1)
	return append(randomWords(r, beginning+"b", bluntOnes), randomWords(r, beginning+"s", number-bluntOnes)...)
}

func randomResults(r *rand.Rand, levels, number int) []trial.Result {
	if levels == 0 {
		return nil
	}
	var l []trial.Result
	for range number {
		l = append(l, trial.Result{Level: 1 + r.IntN(levels), Blunt: r.IntN(2) == 0})
	}
	return l
}

// agreeing returns random results that a stone has.
func agreeing(r *rand.Rand, levels, number int) []trial.Result {
	l := randomResults(r, levels, number)
	hardness := r.IntN(levels + 1)
	for i := range l {
		l[i].Blunt = l[i].Level > hardness
	}
	return l
}

func anyOf[T any](r *rand.Rand, all []T) T { return all[r.IntN(len(all))] }
