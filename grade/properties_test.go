package grade_test

import (
	"math/rand/v2"
	"reflect"
	"slices"
	"testing"

	"novaculite/api"
	"novaculite/grade"
)

func TestIntervalsUnlessTwoAndTwo(t *testing.T) { // P6.10
	forAllOrders(t, func(j judged) {
		kind, _ := grade.Kind(j.told())
		_, two := grade.Two(j.told())
		_, e := grade.Intervals(j.told())
		wantErrno(t, "Intervals", e, errorUnless(two == api.ErrClash, api.ErrLost))
		wantErrno(t, "Intervals of this kind", e, errorUnless(kind >= 1, api.ErrLost))
	})
}

func TestNumbersUnlessTwoAndTwoOrThreeAndOne(t *testing.T) { // P6.11
	forAllOrders(t, func(j judged) {
		kind, _ := grade.Kind(j.told())
		_, two := grade.Two(j.told())
		_, three := grade.Three(j.told())
		step, e := grade.Step(j.told())
		wantErrno(t, "Step", e, errorUnless(two == api.ErrClash && three == api.ErrClash, api.ErrLost))
		wantErrno(t, "Step of this kind", e, errorUnless(kind >= 2, api.ErrLost))
		if step > 3 || (step == 1) != (kind == 3) {
			t.Errorf("kind %d, step %d", kind, step)
		}
	})
}

func TestGreaterSteps(t *testing.T) { // P6.12
	forAllOrders(t, func(j judged) {
		found := false
		for step := 1; step <= grade.MaxStep; step++ {
			_, e := grade.Numbers(j.told(), step)
			if found && e != api.OK {
				t.Errorf("numbers with less, but not with %d", step)
			}
			found = e == api.OK
		}
	})
}

func TestMoreClaims(t *testing.T) { // P6.12
	r := newRandom()
	for range 150 {
		stones := 2 + r.IntN(4)
		l := trueOf(anyOf(r, numbered()[stones]), randomClaims(r, stones, grade.MaxClaims))
		before := map[[2]int]int{}
		for number := range len(l) + 1 {
			if orders, _ := grade.Orders(stones, l[:number]); orders == 0 {
				continue
			}
			after := map[[2]int]int{}
			for _, two := range ascending(2, stones) {
				if sure, e := grade.Sure(stones, l[:number], two[0], two[1]); e == api.OK {
					after[[2]int(two)] = sure
				}
			}
			for two, sure := range before {
				if again, ok := after[two]; !ok || again != sure {
					t.Fatalf("%v of %d stones: not sure with %v", two, stones, l[:number])
				}
			}
			before = after
		}
	}
}

func TestThereAndBack(t *testing.T) { // P6.13
	forAllOrders(t, func(j judged) {
		if intervals, e := grade.Intervals(j.told()); e == api.OK {
			wantErrno(t, "Spans of Intervals", grade.Spans(j.told(), intervals), api.OK)
		}
		for step := 1; step <= grade.MaxStep; step++ {
			numbers, e := grade.Numbers(j.told(), step)
			if e != api.OK {
				continue
			}
			wantErrno(t, "Measures of Numbers", grade.Measures(j.told(), step, numbers), api.OK)
			o, e := grade.Of(step, numbers)
			wantOrder(t, "Of Numbers", o, e, j.order(), api.OK)
		}
	})
}

func TestCounts(t *testing.T) { // P6.14
	orders, shapes := list(1, 3, 19, 183, 2371), list(1, 2, 5, 14, 42)
	for i := range orders {
		number, e := grade.Orders(i+1, nil)
		wantValue(t, "Orders", number, e, orders[i], api.OK)
		number, e = grade.Shapes(i + 1)
		wantValue(t, "Shapes", number, e, shapes[i], api.OK)
	}
}

func TestOtherNumbersOfStones(t *testing.T) { // P6.15
	r := newRandom()
	forAllOrders(t, func(j judged) {
		numbers := r.Perm(j.stones)
		other := j.renumbered(numbers).order()
		kind, _ := grade.Kind(j.told())
		again, e := grade.Kind(other)
		wantValue(t, "Kind", again, e, kind, api.OK)
		step, stepE := grade.Step(j.told())
		again, e = grade.Step(other)
		wantValue(t, "Step", again, e, step, stepE)
		ranks, _ := grade.Ranks(j.told())
		turned, _ := grade.Ranks(other)
		for i, rank := range ranks {
			if turned[numbers[i]] != rank {
				t.Errorf("ranks %v, and %v with the numbers %v", ranks, turned, numbers)
			}
		}
	})
}

func TestSureOfOpposites(t *testing.T) { // P6.15
	forAllClaims(t, func(stones int, l []grade.Claim) {
		for _, two := range ascending(2, stones) {
			there, e := grade.Sure(stones, l, two[0], two[1])
			back, f := grade.Sure(stones, l, two[1], two[0])
			wantValue(t, "Sure of the opposite", back, f, -there, e)
		}
	})
}

func TestWrongAndWhy(t *testing.T) { // P6.16
	forAllClaims(t, func(stones int, l []grade.Claim) {
		wrong, _ := grade.Wrong(stones, l)
		number, _ := grade.Orders(stones, l)
		if (len(wrong) == 0) != (number > 0) {
			t.Errorf("wrong %v, and %d orders agree", wrong, number)
		}
		for _, some := range clashing(stones, l) {
			if !slices.ContainsFunc(some, func(i int) bool { return slices.Contains(wrong, i) }) {
				t.Errorf("wrong %v: none of %v", wrong, some)
			}
		}
		if why, e := grade.Why(stones, l); e == api.OK && !slices.ContainsFunc(why, func(i int) bool { return slices.Contains(wrong, i) }) {
			t.Errorf("wrong %v: none of %v", wrong, why)
		}
	})
}

func TestRanksAndNumbers(t *testing.T) { // P6.17
	for _, orders := range numbered() {
		for _, j := range orders {
			ranks, e := grade.Ranks(j.told())
			wantErrno(t, "Ranks", e, api.OK)
			for _, two := range anyLists(2, upTo(j.stones)) {
				y, x := two[0], two[1]
				if j.over[y][x] && !j.isBefore(y, x) || j.isBefore(y, x) && ranks[y] >= ranks[x] {
					t.Errorf("stones %d and %d, ranks %v", y, x, ranks)
				}
				for step := 1; step <= grade.MaxStep && j.isBefore(y, x); step++ {
					numbers, e := grade.Numbers(j.told(), step)
					if e == api.OK && numbers[y] <= numbers[x] {
						t.Errorf("stones %d and %d, numbers %v with %d", y, x, numbers, step)
					}
				}
			}
			if t.Failed() {
				t.Fatalf("order %v", j.order())
			}
		}
	}
}

// arguments are arguments of all functions.
type arguments struct {
	o         grade.Order
	l         []grade.Claim
	intervals [][2]int
	numbers   []int
	a, b      int
}

func randomArguments(r *rand.Rand) arguments {
	stones := 1 + r.IntN(grade.MaxStones)
	x := arguments{
		o:         randomJudged(r, stones).told(),
		l:         randomClaims(r, stones, r.IntN(grade.MaxClaims+2)),
		intervals: randomIntervals(r, stones, 4),
		numbers:   randomNumbers(r, anyOf(r, list(stones, 4)), 5),
		a:         r.IntN(stones),
		b:         r.IntN(stones),
	}
	if r.IntN(3) == 0 {
		x.o.Stones, x.a, x.b = anyOf(r, edges()), anyOf(r, edges()), anyOf(r, edges())
	}
	if r.IntN(3) == 0 && len(x.o.Sharper) > 0 {
		x.o.Sharper[0][0] = anyOf(r, edges())
	}
	if r.IntN(3) == 0 && len(x.l) > 0 {
		x.l[0].B = anyOf(r, edges())
	}
	if r.IntN(3) == 0 {
		x.intervals[0][0], x.numbers[0] = anyOf(r, edges()), anyOf(r, edges())
	}
	return x
}

func (x arguments) copied() arguments {
	x.o.Sharper = slices.Clone(x.o.Sharper)
	x.l = slices.Clone(x.l)
	x.intervals = slices.Clone(x.intervals)
	x.numbers = slices.Clone(x.numbers)
	return x
}

// answers returns what all functions return for some arguments.
func answers(x arguments) []any {
	var all []any
	add := func(results ...any) { all = append(all, results...) }
	two := func(result any, e api.Errno) { add(result, e) }
	add(grade.Check(x.o))
	two(grade.Kind(x.o))
	two(grade.Two(x.o))
	two(grade.Three(x.o))
	add(grade.Against(x.o, x.numbers))
	two(grade.Intervals(x.o))
	add(grade.Spans(x.o, x.intervals))
	two(grade.Step(x.o))
	two(grade.Numbers(x.o, x.a))
	add(grade.Measures(x.o, x.a, x.numbers))
	two(grade.Of(x.a, x.numbers))
	two(grade.Ranks(x.o))
	add(grade.Told(x.o.Stones, x.l))
	two(grade.Agrees(x.o, x.l))
	two(grade.Sure(x.o.Stones, x.l, x.a, x.b))
	two(grade.Orders(x.o.Stones, x.l))
	two(grade.Why(x.o.Stones, x.l))
	two(grade.Wrong(x.o.Stones, x.l))
	two(grade.Shapes(x.a))
	return all
}

func TestArgumentsStayAndAnswersRepeat(t *testing.T) { // P1, R4
	r := newRandom()
	for range 1000 {
		x := randomArguments(r)
		before := x.copied()
		first := answers(x)
		if !reflect.DeepEqual(x, before) {
			t.Fatalf("arguments were changed: %v, before %v", x, before)
		}
		if !reflect.DeepEqual(first, answers(x)) {
			t.Fatalf("other answers: %v", x)
		}
	}
}

func TestResultsAreOwnMemory(t *testing.T) { // R4
	numbers := list(3, 2, 1, 0)
	o, _ := grade.Of(2, numbers)
	numbers[0] = 99
	wantOrder(t, "the order of other numbers", o, api.OK, orderQ(), api.OK)
	o.Sharper[0] = [2]int{9, 9}
	again, e := grade.Of(2, list(3, 2, 1, 0))
	wantOrder(t, "Of again", again, e, orderQ(), api.OK)
	for _, of := range []func() ([]int, api.Errno){
		func() ([]int, api.Errno) { return grade.Two(orderO()) },
		func() ([]int, api.Errno) { return grade.Three(orderP()) },
		func() ([]int, api.Errno) { return grade.Numbers(orderQ(), 2) },
		func() ([]int, api.Errno) { return grade.Ranks(orderQ()) },
		func() ([]int, api.Errno) { return grade.Why(2, contradiction(2)) },
		func() ([]int, api.Errno) { return grade.Wrong(2, contradiction(2)) },
	} {
		first, _ := of()
		want := slices.Clone(first)
		first[0] = 99
		second, e := of()
		wantList(t, "a result after another one was changed", second, e, want, api.OK)
	}
}
