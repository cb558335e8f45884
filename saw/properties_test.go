package saw_test

import (
	"slices"
	"testing"

	"novaculite/api"
	"novaculite/saw"
)

func TestBarsAreAsLongAsBest(t *testing.T) { // P3.10
	r := newRandom()
	for range 100 {
		s := randomSlab(r)
		most, _ := saw.Most(s)
		bar, _ := saw.Bar(s)
		wantErrno(t, "Proves of Bar", saw.Proves(s, most, bar), api.OK)
		if len(bar) != most {
			t.Errorf("a bar of %d for %d blanks", len(bar), most)
		}
		for _, k := range barsOf(s) {
			if most > 0 {
				wantErrno(t, "Proves of less", saw.Proves(s, most-1, k), api.ErrProof)
			}
		}
		if t.Failed() {
			t.Fatalf("slab %v", s)
		}
	}
}

func TestTurnsLeadToAll(t *testing.T) { // P3.11
	r := newRandom()
	for range 100 {
		s := sawnSlab(r)
		all := sawingsOf(s)
		a := anyOf(r, all)
		from, _ := saw.Heights(s, a)
		for _, b := range all {
			to, _ := saw.Heights(s, b)
			sum := 0
			for i := range from {
				sum += max(from[i], to[i]) - min(from[i], to[i])
			}
			turns, e := saw.Turns(s, a, b)
			wantNumber(t, "Turns", 4*turns, e, sum, api.OK)
			if turnsTo(s, a, b) < 0 {
				t.Errorf("no turns lead to %v", b)
			}
		}
		for corner, b := range turnsOf(s, a) {
			to, _ := saw.Heights(s, b)
			for i := range from {
				if d := max(from[i], to[i]) - min(from[i], to[i]); i == corner && d != 4 || i != corner && d != 0 {
					t.Errorf("a turn at %d changes %d by %d", corner, i, d)
				}
			}
		}
		if t.Failed() {
			t.Fatalf("slab %v, sawing %v", s, a)
		}
	}
}

func TestNoTurnLeadsBelowLowest(t *testing.T) { // P3.12
	r := newRandom()
	for range 200 {
		s := sawnSlab(r)
		low, _ := saw.Lowest(s)
		high, _ := saw.Highest(s)
		bottom, _ := saw.Heights(s, low)
		top, _ := saw.Heights(s, high)
		for corner := range bottom {
			if k, e := saw.Turn(s, low, corner); e == api.OK {
				if heights, _ := saw.Heights(s, k); heights[corner] < bottom[corner] {
					t.Errorf("slab %v: a turn at %d makes the lowest lower", s, corner)
				}
			}
			if k, e := saw.Turn(s, high, corner); e == api.OK {
				if heights, _ := saw.Heights(s, k); heights[corner] > top[corner] {
					t.Errorf("slab %v: a turn at %d makes the highest higher", s, corner)
				}
			}
		}
	}
}

func TestIdleAndSure(t *testing.T) { // P3.13
	r := newRandom()
	for range 200 {
		s := randomSlab(r)
		idle, _ := saw.Idle(s)
		most, _ := saw.Most(s)
		good, _ := saw.Cells(s)
		if (len(idle) > 0) != (2*most < len(good)) {
			t.Errorf("idle %v with %d blanks", idle, most)
		}
		for _, c := range idle {
			for _, d := range idle {
				if isNext(s, c, d) {
					t.Errorf("idle neighbours %d and %d", c, d)
				}
			}
		}
		sure, _ := saw.Sure(s)
		for _, k := range blanksOf(s) {
			longest := 0
			for _, l := range cuttingsWith(nil, slices.DeleteFunc(blanksOf(s), func(l [2]int) bool { return l == k })) {
				longest = max(longest, len(l))
			}
			if slices.Contains(sure, k) != (longest < most) {
				t.Errorf("blank %v: %d without it, %d in all; sure are %v", k, longest, most, sure)
			}
		}
		if t.Failed() {
			t.Fatalf("slab %v", s)
		}
	}
}

func TestIdleIsInNoShortestBar(t *testing.T) { // P3.13
	r := newRandom()
	for range 100 {
		s := randomSlab(r)
		idle, _ := saw.Idle(s)
		bars := barsOf(s)
		for _, bar := range bars {
			if len(bar) > len(bars[0]) {
				break
			}
			for _, c := range idle {
				if slices.Contains(bar, c) {
					t.Fatalf("slab %v: the idle cell %d is in the bar %v", s, c, bar)
				}
			}
		}
	}
}

func TestDarkAndLight(t *testing.T) { // P3.14
	r := newRandom()
	for range 400 {
		s := randomSlab(r)
		dark, light := 0, 0
		for _, c := range goodOf(s) {
			if isDark(s, c) {
				dark++
			} else {
				light++
			}
		}
		first, _ := saw.First(s)
		for _, k := range first {
			if isDark(s, k[0]) == isDark(s, k[1]) {
				t.Errorf("slab %v: blank %v", s, k)
			}
		}
		if most, _ := saw.Most(s); most > min(dark, light) {
			t.Errorf("slab %v: %d blanks of %d dark and %d light cells", s, most, dark, light)
		}
		if _, e := saw.Lowest(s); e == api.OK && dark != light {
			t.Errorf("slab %v: sawn, with %d dark and %d light cells", s, dark, light)
		}
	}
}

func TestMirrored(t *testing.T) { // P3.15
	r := newRandom()
	for range 300 {
		s := randomSlab(r)
		m := mirrored(s)
		most, _ := saw.Most(s)
		got, e := saw.Most(m)
		wantNumber(t, "Most", got, e, most, api.OK)
		count, _ := saw.Count(s)
		got, e = saw.Count(m)
		wantNumber(t, "Count", got, e, count, api.OK)
		idle, _ := saw.Idle(s)
		other, e := saw.Idle(m)
		wantNumber(t, "idle cells", len(other), e, len(idle), api.OK)
		whole, _ := saw.Whole(s)
		got2, e := saw.Whole(m)
		wantBool(t, "Whole", got2, e, whole, api.OK)
		if t.Failed() {
			t.Fatalf("slab %v", s)
		}
	}
}

func TestMirroredSawings(t *testing.T) { // P3.15
	r := newRandom()
	for range 200 {
		s := sawnSlab(r)
		all := sawingsOf(s)
		a, b := anyOf(r, all), anyOf(r, all)
		turns, _ := saw.Turns(s, a, b)
		got, e := saw.Turns(s, b, a)
		wantNumber(t, "Turns back", got, e, turns, api.OK)
		got, e = saw.Turns(mirrored(s), mirroredBlanks(s, a), mirroredBlanks(s, b))
		wantNumber(t, "Turns, mirrored", got, e, turns, api.OK)
		lower, _ := saw.Lower(s, a, b)
		l, e := saw.Lower(s, b, a)
		wantList(t, "Lower exchanged", l, e, lower, api.OK)
		higher, _ := saw.Higher(s, a, b)
		l, e = saw.Higher(s, b, a)
		wantList(t, "Higher exchanged", l, e, higher, api.OK)
		if t.Failed() {
			t.Fatalf("slab %v, %v and %v", s, a, b)
		}
	}
}

func TestMoreSpoiled(t *testing.T) { // P3.16
	r := newRandom()
	for range 300 {
		s := randomSlab(r)
		most, _ := saw.Most(s)
		idle, _ := saw.Idle(s)
		for _, c := range goodOf(s) {
			want := most - 1
			if slices.Contains(idle, c) {
				want = most
			}
			got, e := saw.Most(spoiling(s, c))
			wantNumber(t, "Most", got, e, want, api.OK)
		}
		if t.Failed() {
			t.Fatalf("slab %v", s)
		}
	}
}
