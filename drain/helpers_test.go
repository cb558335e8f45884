package drain_test

import (
	"math/rand/v2"
	"slices"
	"testing"

	"novaculite/api"
	"novaculite/drain"
)

const (
	greatest = int(^uint(0) >> 1)
	smallest = -greatest - 1
)

func list(numbers ...int) []int { return numbers }

// hill makes channels of three numbers each: from, to and cost.
func hill(galleries int, numbers ...int) drain.Hill {
	h := drain.Hill{Galleries: galleries}
	for three := range slices.Chunk(numbers, 3) {
		h.Channels = append(h.Channels, [3]int(three))
	}
	return h
}

func due(pay int, group ...int) drain.Due { return drain.Due{Group: group, Pay: pay} }

// hillH, hillK and hillL are the chapter's H, K and L.
func hillH() drain.Hill {
	return hill(3, 0, 1, 1, 1, 0, 1, 0, 3, 5, 1, 3, 4, 2, 1, 2, 2, 3, 3)
}

func hillK() drain.Hill { return hill(2, 0, 1, 2, 1, 0, 3) }

func hillL() drain.Hill { return hill(1, 0, 1, 0) }

// duesH are the dues of H.
func duesH() []drain.Due { return []drain.Due{due(1, 0), due(1, 1), due(3, 0, 1), due(2, 2)} }

func wantErrno(t *testing.T, call string, got, want api.Errno) {
	t.Helper()
	if got != want {
		t.Errorf("%s: error %d, want %d", call, got, want)
	}
}

func wantNumber(t *testing.T, call string, got int, e api.Errno, want int, wantE api.Errno) {
	t.Helper()
	if got != want || e != wantE {
		t.Errorf("%s: %d with error %d, want %d with %d", call, got, e, want, wantE)
	}
}

func wantList(t *testing.T, call string, got []int, e api.Errno, want []int, wantE api.Errno) {
	t.Helper()
	if !slices.Equal(got, want) || e != wantE {
		t.Errorf("%s: %v with error %d, want %v with %d", call, got, e, want, wantE)
	}
}

func wantLists(t *testing.T, call string, got [][]int, e api.Errno, want [][]int, wantE api.Errno) {
	t.Helper()
	if !slices.EqualFunc(got, want, slices.Equal[[]int]) || e != wantE {
		t.Errorf("%s: %v with error %d, want %v with %d", call, got, e, want, wantE)
	}
}

func wantDues(t *testing.T, call string, got []drain.Due, e api.Errno, want []drain.Due, wantE api.Errno) {
	t.Helper()
	same := func(a, b drain.Due) bool { return slices.Equal(a.Group, b.Group) && a.Pay == b.Pay }
	if !slices.EqualFunc(got, want, same) || e != wantE {
		t.Errorf("%s: %v with error %d, want %v with %d", call, got, e, want, wantE)
	}
}

func newRandom() *rand.Rand { return rand.New(rand.NewPCG(1, 2)) }

// randomHill returns a hill with channels of costs from 0 to some number, so
// that there are hills with traps, with many plans, and with equal ones.
func randomHill(r *rand.Rand) drain.Hill {
	h := drain.Hill{Galleries: 1 + r.IntN(drain.MaxGalleries)}
	most := list(0, 1, 3, drain.MaxCost)[r.IntN(4)]
	for from := range h.Galleries {
		for to := range h.Galleries + 1 {
			if from != to {
				h.Channels = append(h.Channels, [3]int{from, to, r.IntN(most + 1)})
			}
		}
	}
	r.Shuffle(len(h.Channels), func(i, j int) { h.Channels[i], h.Channels[j] = h.Channels[j], h.Channels[i] })
	number := min(len(h.Channels), drain.MaxChannels)
	if r.IntN(3) == 0 {
		number = r.IntN(number + 1)
	}
	h.Channels = slices.Clip(h.Channels[:number])
	return h
}

// drainedHill returns a random hill that has a plan.
func drainedHill(r *rand.Rand) drain.Hill {
	for {
		if h := randomHill(r); len(plansOf(h)) > 0 {
			return h
		}
	}
}

// copyOf returns a hill that shares no memory with another one.
func copyOf(h drain.Hill) drain.Hill {
	h.Channels = slices.Clone(h.Channels)
	return h
}

func lacking(h drain.Hill, channel int) drain.Hill {
	h.Channels = slices.Delete(slices.Clone(h.Channels), channel, channel+1)
	return h
}

func costing(h drain.Hill, channel, cost int) drain.Hill {
	h = copyOf(h)
	h.Channels[channel][2] = cost
	return h
}
