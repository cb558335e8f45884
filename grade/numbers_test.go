package grade_test

import (
	"slices"
	"testing"

	"novaculite/api"
	"novaculite/grade"
)

func TestIntervals(t *testing.T) { // P6.3
	forAllOrders(t, func(j judged) {
		x, found := allEnds()[j.stones][j.over]
		var want [][2]int
		for i := range x.lowers {
			want = append(want, [2]int{x.lowers[i], x.rises[i]})
		}
		if found && (tableOfIntervals(want) != j.over || slices.Max(x.rises) != x.top) {
			t.Errorf("the smallest lower ends and the greatest upper ends, %v, are of another order", want)
		}
		intervals, e := grade.Intervals(j.told())
		wantList(t, "Intervals", intervals, e, want, errorUnless(found, api.ErrLost))
	})
}

// spansOf says what is wrong with intervals.
func spansOf(j judged, intervals [][2]int) api.Errno {
	if len(intervals) != j.stones {
		return api.ErrShape
	}
	for _, x := range intervals {
		if x[0] < 0 || x[0] > 50 || x[1] < 0 || x[1] > 50 {
			return api.ErrRange
		}
		if x[0] > x[1] {
			return api.ErrOrder
		}
	}
	return errorUnless(tableOfIntervals(intervals) == j.over, api.ErrProof)
}

func wantSpans(t *testing.T, j judged, intervals [][2]int) api.Errno {
	t.Helper()
	want := spansOf(j, intervals)
	wantErrno(t, "Spans", grade.Spans(j.told(), intervals), want)
	if t.Failed() {
		t.Fatalf("order %v, intervals %v", j.order(), intervals)
	}
	return want
}

func TestSpans(t *testing.T) { // P6.3
	seen := map[api.Errno]int{}
	for stones := 1; stones <= 3; stones++ {
		for _, ends := range anyLists(2*stones, upTo(4)) {
			for _, j := range allJudged()[stones] {
				seen[wantSpans(t, j, pairs(ends...))]++
			}
		}
	}
	for stones := 1; stones <= 2; stones++ {
		for _, ends := range anyLists(2*stones, list(smallest, -1, 0, 1, 49, 50, 51, greatest)) {
			for _, j := range allJudged()[stones] {
				seen[wantSpans(t, j, pairs(ends...))]++
			}
		}
	}
	for stones := 1; stones <= grade.MaxStones; stones++ {
		for number := range 8 {
			for _, end := range list(-1, 0, 51) {
				seen[wantSpans(t, judged{stones: stones}, slices.Repeat(pairs(end, end), number))]++
			}
		}
	}
	if len(seen) != 5 {
		t.Errorf("not each error was seen: %v", seen)
	}
}

func TestSpansOfRandomIntervals(t *testing.T) { // P6.3
	r := newRandom()
	seen := map[api.Errno]int{}
	for range 100000 {
		stones := 1 + r.IntN(grade.MaxStones)
		intervals := randomIntervals(r, stones, anyOf(r, list(2, 3, 6, 51, 52)))
		j := judged{stones, tableOfIntervals(intervals)}
		seen[wantSpans(t, j, intervals)]++
		if i := r.IntN(stones); r.IntN(10) == 0 {
			intervals[i][0], intervals[i][1] = intervals[i][1], intervals[i][0]
		}
		seen[wantSpans(t, randomJudged(r, stones), intervals)]++
		a, b := r.IntN(stones), r.IntN(stones)
		j.over[a][b] = a != b && !j.over[b][a] && !j.over[a][b]
		seen[wantSpans(t, j, intervals)]++
	}
	if len(seen) != 4 {
		t.Errorf("not each error was seen: %v", seen)
	}
}

func TestStepNumbers(t *testing.T) { // P6.4
	forAllOrders(t, func(j judged) {
		want := stepOf(j)
		step, e := grade.Step(j.told())
		wantValue(t, "Step", step, e, want, errorUnless(want > 0, api.ErrLost))
		for step := 1; step <= grade.MaxStep; step++ {
			want, found := allNumbers()[j.stones][step][j.over]
			if found && tableOfNumbers(step, want) != j.over {
				t.Errorf("the smallest numbers, %v, are of another order", want)
			}
			numbers, e := grade.Numbers(j.told(), step)
			wantList(t, "Numbers", numbers, e, want, errorUnless(found, api.ErrLost))
		}
	})
}

func TestWrongSteps(t *testing.T) { // P6.4
	for _, step := range list(smallest, -1, 0, 10, greatest) {
		for _, o := range []grade.Order{orderO(), orderP(), orderQ(), orderW(), order(1)} {
			numbers, e := grade.Numbers(o, step)
			wantList(t, "Numbers", numbers, e, nil, api.ErrRange)
			wantErrno(t, "Measures", grade.Measures(o, step, nil), api.ErrRange)
			wantErrno(t, "Measures", grade.Measures(o, step, make([]int, o.Stones)), api.ErrRange)
		}
	}
}

// measuresOf says what is wrong with numbers.
func measuresOf(j judged, step int, numbers []int) api.Errno {
	if len(numbers) != j.stones {
		return api.ErrShape
	}
	for _, n := range numbers {
		if n < 0 || n > 50 {
			return api.ErrRange
		}
	}
	return errorUnless(tableOfNumbers(step, numbers) == j.over, api.ErrProof)
}

func wantMeasures(t *testing.T, j judged, step int, numbers []int) api.Errno {
	t.Helper()
	want := measuresOf(j, step, numbers)
	wantErrno(t, "Measures", grade.Measures(j.told(), step, numbers), want)
	if t.Failed() {
		t.Fatalf("order %v, step %d, numbers %v", j.order(), step, numbers)
	}
	return want
}

func TestMeasures(t *testing.T) { // P6.4
	seen := map[api.Errno]int{}
	for step := 1; step <= grade.MaxStep; step++ {
		for stones := 1; stones <= 3; stones++ {
			for _, numbers := range anyLists(stones, list(smallest, -1, 0, 1, 2, 9, 49, 50, 51, greatest)) {
				for _, j := range allJudged()[stones] {
					seen[wantMeasures(t, j, step, numbers)]++
				}
			}
		}
		for stones := 1; stones <= grade.MaxStones; stones++ {
			for number := range 8 {
				for _, n := range list(-1, 0, 51) {
					seen[wantMeasures(t, judged{stones: stones}, step, slices.Repeat(list(n), number))]++
				}
			}
		}
	}
	if len(seen) != 4 {
		t.Errorf("not each error was seen: %v", seen)
	}
}

func TestMeasuresOfRandomNumbers(t *testing.T) { // P6.4
	r := newRandom()
	seen := map[api.Errno]int{}
	for range 100000 {
		stones, step := 1+r.IntN(grade.MaxStones), 1+r.IntN(grade.MaxStep)
		numbers := randomNumbers(r, stones, anyOf(r, list(3, 10, 51, 52)))
		j := judged{stones, tableOfNumbers(step, numbers)}
		seen[wantMeasures(t, j, step, numbers)]++
		seen[wantMeasures(t, j, 1+r.IntN(grade.MaxStep), numbers)]++
		a, b := r.IntN(stones), r.IntN(stones)
		j.over[a][b] = a != b && !j.over[b][a] && !j.over[a][b]
		seen[wantMeasures(t, j, step, numbers)]++
	}
	if len(seen) != 3 {
		t.Errorf("not each error was seen: %v", seen)
	}
}
