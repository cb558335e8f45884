package suit_test

import (
	"math/rand/v2"
	"reflect"
	"slices"
	"testing"

	"novaculite/api"
	"novaculite/grade"
	"novaculite/suit"
)

// divisionsOf returns all divisions of a book, by what the package says of lists.
func divisionsOf(b suit.Book) [][]int {
	lists := anyLists(len(b.Lists), append(list(-1), upTo(b.Stones)...))
	return slices.DeleteFunc(lists, func(l []int) bool { return suit.Valid(b, l) != api.OK })
}

func TestPopularByWishes(t *testing.T) { // P8.9
	forBooks(t, func(r *rand.Rand, b suit.Book) {
		firsts, _ := suit.Firsts(b)
		wishes, _ := suit.Wishes(b)
		for _, division := range someOf(r, divisionsOf(b), most) {
			granted := true
			for _, first := range firsts {
				smith := slices.Index(division, first)
				granted = granted && smith >= 0 && wishes[smith][0] == first
			}
			for smith, stone := range division {
				granted = granted && (stone == wishes[smith][0] || stone == wishes[smith][1])
			}
			is, e := suit.Popular(b, division)
			wantValue(t, "Popular", is, e, granted, api.OK)
			margin, e := suit.Margin(b, division)
			wantValue(t, "no margin", margin == 0, e, granted, api.OK)
		}
	})
}

func TestPopularUnlessShortGroup(t *testing.T) { // P8.10
	forBooks(t, func(_ *rand.Rand, b suit.Book) {
		short := false
		for number := range len(b.Lists) + 1 {
			for _, smiths := range anyLists(number, upTo(len(b.Lists))) {
				short = short || suit.Proves(b, smiths) == api.OK
			}
		}
		_, e := suit.First(b)
		wantErrno(t, "First", e, errorUnless(!short, api.ErrLost))
		_, e = suit.Why(b)
		wantErrno(t, "Why", e, errorUnless(short, api.ErrClash))
	})
}

func TestBetterBeats(t *testing.T) { // P8.11
	forBooks(t, func(r *rand.Rand, b suit.Book) {
		for _, division := range someOf(r, divisionsOf(b), most) {
			popular, _ := suit.Popular(b, division)
			sound, _ := suit.Sound(b, division)
			if popular && !sound {
				t.Errorf("%v is popular, but not sound", division)
			}
			better, e := suit.Better(b, division)
			if wantErrno(t, "Better", e, errorUnless(!sound, api.ErrClash)); sound {
				continue
			}
			majority, e := suit.Majority(b, better, division)
			wantValue(t, "it beats", majority > 0, e, true, api.OK)
		}
	})
}

func TestMajoritiesOfPopularDivisions(t *testing.T) { // P8.12
	forBooks(t, func(_ *rand.Rand, b suit.Book) {
		popular := slices.DeleteFunc(divisionsOf(b), func(division []int) bool {
			is, _ := suit.Popular(b, division)
			return !is
		})
		for _, division := range popular {
			for _, other := range popular {
				majority, e := suit.Majority(b, division, other)
				wantValue(t, "Majority", majority, e, 0, api.OK)
			}
		}
	})
}

// renumbered returns a book after smiths and stones got other numbers.
func renumbered(b suit.Book, smiths, stones []int) suit.Book {
	other := suit.Book{Stones: b.Stones, Lists: make([][]int, len(b.Lists))}
	for smith, l := range b.Lists {
		for _, stone := range l {
			other.Lists[smiths[smith]] = append(other.Lists[smiths[smith]], stones[stone])
		}
	}
	return other
}

// turned returns a division after smiths and stones got other numbers.
func turned(division, smiths, stones []int) []int {
	other := slices.Repeat(list(-1), len(division))
	for smith, stone := range division {
		if stone >= 0 {
			other[smiths[smith]] = stones[stone]
		}
	}
	return other
}

// counted returns Count, Least, and how many smiths get a stone by Largest.
func counted(t *testing.T, b suit.Book) (count, least, largest int) {
	t.Helper()
	count, e := suit.Count(b)
	wantErrno(t, "Count", e, api.OK)
	least, e = suit.Least(b)
	wantErrno(t, "Least", e, api.OK)
	division, e := suit.Largest(b)
	wantErrno(t, "Largest", e, errorUnless(count > 0, api.ErrLost))
	return count, least, servedOf(division)
}

func TestOtherNumbers(t *testing.T) { // P8.13
	forBooks(t, func(r *rand.Rand, b suit.Book) {
		smiths, stones := r.Perm(len(b.Lists)), r.Perm(b.Stones)
		other := renumbered(b, smiths, stones)
		count, least, largest := counted(t, b)
		count2, least2, largest2 := counted(t, other)
		if count2 != count || least2 != least || largest2 != largest {
			t.Errorf("%v: %d %d %d, want %d %d %d", other, count2, least2, largest2, count, least, largest)
		}
		divisions := divisionsOf(b)
		for range 10 {
			d1, d2 := anyOf(r, divisions), anyOf(r, divisions)
			want, _ := suit.Majority(b, d1, d2)
			majority, e := suit.Majority(other, turned(d1, smiths, stones), turned(d2, smiths, stones))
			wantValue(t, "Majority", majority, e, want, api.OK)
		}
	})
}

func TestOneMoreStone(t *testing.T) { // P8.14
	longer := 0
	forBooks(t, func(_ *rand.Rand, b suit.Book) {
		count, least, largest := counted(t, b)
		wanted := slices.Concat(b.Lists...)
		for stone := range min(b.Stones+1, suit.MaxStones) {
			if slices.Contains(wanted, stone) {
				continue
			}
			for smith := range b.Lists {
				more := cloneBook(b)
				more.Stones = max(b.Stones, stone+1)
				more.Lists[smith] = append(more.Lists[smith], stone)
				count2, least2, largest2 := counted(t, more)
				if count2 != count || least2 != least || largest2 < largest {
					t.Errorf("%v: %d %d %d, before %d %d %d", more, count2, least2, largest2, count, least, largest)
				}
				if largest2 > largest {
					longer++
				}
			}
		}
	})
	if longer == 0 {
		t.Error("no stone was of use")
	}
}

func TestJudgedByAllJudgements(t *testing.T) { // P8.15
	for stones := 1; stones <= grade.MaxStones; stones++ {
		for _, o := range allOrders(stones) {
			l, e := suit.Judged(o)
			if e != api.OK {
				continue
			}
			wantList(t, "Judged, sorted", slices.Sorted(slices.Values(l)), e, upTo(stones), api.OK)
			for _, pair := range o.Sharper {
				if slices.Index(l, pair[0]) > slices.Index(l, pair[1]) {
					t.Errorf("Judged: %v, but %d is sharper than %d", l, pair[0], pair[1])
				}
			}
			wantErrno(t, "Check of a book with it", suit.Check(book(stones, l)), api.OK)
			if t.Failed() {
				t.Fatalf("order %v", o)
			}
		}
	}
}

func TestLeastIsZeroJustIfPopular(t *testing.T) { // P8.16
	forBooks(t, func(_ *rand.Rand, b suit.Book) {
		count, least, _ := counted(t, b)
		if (least == 0) != (count > 0) || least < 0 || least >= len(b.Lists) {
			t.Errorf("Least %d, Count %d", least, count)
		}
	})
}

// told is the arguments of all functions.
type told struct {
	b                       suit.Book
	division, other, smiths []int
	o                       grade.Order
}

func (a told) clone() told {
	a.b = cloneBook(a.b)
	a.division, a.other, a.smiths = slices.Clone(a.division), slices.Clone(a.other), slices.Clone(a.smiths)
	a.o.Sharper = slices.Clone(a.o.Sharper)
	return a
}

// answers returns what all functions return for some arguments.
func answers(a told) []any {
	var all []any
	add := func(result any, e api.Errno) { all = append(all, result, e) }
	add(nil, suit.Check(a.b))
	add(suit.Judged(a.o))
	add(suit.Firsts(a.b))
	add(suit.Wishes(a.b))
	add(nil, suit.Valid(a.b, a.division))
	add(suit.Places(a.b, a.division))
	add(suit.Majority(a.b, a.division, a.other))
	add(suit.Margin(a.b, a.division))
	add(suit.Winner(a.b, a.division))
	add(suit.Popular(a.b, a.division))
	add(suit.First(a.b))
	add(suit.Largest(a.b))
	add(suit.Count(a.b))
	add(suit.Least(a.b))
	add(suit.Why(a.b))
	add(nil, suit.Proves(a.b, a.smiths))
	add(suit.Sound(a.b, a.division))
	add(suit.Better(a.b, a.division))
	return all
}

func TestArgumentsStayAndAnswersRepeat(t *testing.T) { // P1, R4
	r := newRandom()
	for range 3000 {
		b := randomBook(r, between(r, 1, 4), between(r, 1, 4))
		divisions := divisionsOf(b)
		a := told{b, anyOf(r, divisions), anyOf(r, divisions), upTo(len(b.Lists)), anyOf(r, allOrders(between(r, 1, 3)))}
		if r.IntN(2) == 0 {
			a.b = spoilBook(r, b)
			a.division[r.IntN(len(a.division))] = anyOf(r, edges())
			a.smiths[r.IntN(len(a.smiths))] = anyOf(r, edges())
		}
		before := a.clone()
		first := answers(a)
		if !reflect.DeepEqual(a, before) {
			t.Fatalf("arguments were changed: %v", before)
		}
		if !reflect.DeepEqual(first, answers(a)) {
			t.Fatalf("other answers: %v", a)
		}
	}
}

func TestResultsAreOwnMemory(t *testing.T) { // R4
	b := bookB()
	division := list(-1, 2, 1)
	spoil := func(l []int, _ api.Errno) {
		whole := l[:cap(l)]
		for i := range whole {
			whole[i] = 99
		}
	}
	spoil(suit.Firsts(b))
	spoil(suit.Places(b, division))
	spoil(suit.Winner(b, division))
	spoil(suit.Better(b, division))
	spoil(suit.First(b))
	spoil(suit.Largest(b))
	spoil(suit.Why(bookC()))
	wishes, _ := suit.Wishes(b)
	wishes[0] = [2]int{99, 99}
	if !reflect.DeepEqual(b, bookB()) || !slices.Equal(division, list(-1, 2, 1)) {
		t.Errorf("a result shares memory with %v or %v", b, division)
	}
	first, e := suit.First(b)
	wantList(t, "First", first, e, list(-1, 0, 1), api.OK)
	first, e = suit.Largest(b)
	wantList(t, "Largest", first, e, list(0, 2, 1), api.OK)
}
