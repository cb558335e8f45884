package saw_test

import (
	"math/rand/v2"
	"slices"
	"testing"

	"novaculite/api"
	"novaculite/saw"
)

const (
	greatest = int(^uint(0) >> 1)
	smallest = -greatest - 1
)

func list(numbers ...int) []int { return numbers }

// cutting makes blanks of two numbers each.
func cutting(numbers ...int) [][2]int {
	var blanks [][2]int
	for two := range slices.Chunk(numbers, 2) {
		blanks = append(blanks, [2]int(two))
	}
	return blanks
}

func slab(wide, high int, spoiled ...int) saw.Slab {
	return saw.Slab{Wide: wide, High: high, Spoiled: spoiled}
}

// slabA, slabB, slabC and slabD are the chapter's A, B, C and D.
func slabA() saw.Slab { return slab(2, 2) }

func slabB() saw.Slab { return slab(3, 3, 4) }

func slabC() saw.Slab { return slab(3, 1) }

func slabD() saw.Slab { return slab(2, 2, 3) }

func wantErrno(t *testing.T, call string, got, want api.Errno) {
	t.Helper()
	if got != want {
		t.Errorf("%s: error %d, want %d", call, got, want)
	}
}

func wantNumber(t *testing.T, call string, got int, e api.Errno, want int, wantE api.Errno) {
	t.Helper()
	if got != want || e != wantE {
		t.Errorf("%s: %d with error %d, want %d with %d", call, got, e, want, wantE)
	}
}

func wantBool(t *testing.T, call string, got bool, e api.Errno, want bool, wantE api.Errno) {
	t.Helper()
	if got != want || e != wantE {
		t.Errorf("%s: %v with error %d, want %v with %d", call, got, e, want, wantE)
	}
}

func wantList[T comparable](t *testing.T, call string, got []T, e api.Errno, want []T, wantE api.Errno) {
	t.Helper()
	if !slices.Equal(got, want) || e != wantE {
		t.Errorf("%s: %v with error %d, want %v with %d", call, got, e, want, wantE)
	}
}

func newRandom() *rand.Rand { return rand.New(rand.NewPCG(1, 2)) }

// randomSlab returns slabs of all sizes, with few and with many spoiled cells.
func randomSlab(r *rand.Rand) saw.Slab {
	for {
		s := slab(1+r.IntN(saw.MaxSide), 1+r.IntN(saw.MaxSide))
		if s.Wide*s.High > saw.MaxCells {
			continue
		}
		of := 2 + r.IntN(8)
		for c := range s.Wide * s.High {
			if r.IntN(of) == 0 && of < 9 {
				s.Spoiled = append(s.Spoiled, c)
			}
		}
		return s
	}
}

// sawnSlab returns a random slab that is whole and has a sawing.
func sawnSlab(r *rand.Rand) saw.Slab {
	for {
		if s := randomSlab(r); isWhole(s) && len(sawingsOf(s)) > 0 {
			return s
		}
	}
}

func anyOf[T any](r *rand.Rand, all []T) T { return all[r.IntN(len(all))] }

// spoiling returns a slab with one cell spoiled more.
func spoiling(s saw.Slab, cell int) saw.Slab {
	s.Spoiled = append(slices.Clone(s.Spoiled), cell)
	slices.Sort(s.Spoiled)
	return s
}
