package suit_test

import (
	"math/rand/v2"
	"slices"
	"testing"

	"novaculite/api"
	"novaculite/grade"
	"novaculite/suit"
)

func TestCheck(t *testing.T) { // P8.1
	for _, x := range []struct {
		name string
		b    suit.Book
		e    api.Errno
	}{
		{"the least book", book(1, list(0)), api.OK},
		{"the greatest book", book(5, list(0, 1, 2, 3, 4), list(4, 3, 2, 1, 0), list(4), list(4), list(0, 4, 1, 3, 2)), api.OK},
		{"no stones", book(0, list(0)), api.ErrRange},
		{"six stones", book(6, list(0)), api.ErrRange},
		{"the smallest number of stones", book(smallest, list(0)), api.ErrRange},
		{"the greatest number of stones", book(greatest, list(0)), api.ErrRange},
		{"nothing at all", suit.Book{}, api.ErrRange},
		{"six stones and six lists", book(6, make([][]int, 6)...), api.ErrRange},
		{"nil lists", suit.Book{Stones: 1}, api.ErrEmpty},
		{"no lists", suit.Book{Stones: 1, Lists: [][]int{}}, api.ErrEmpty},
		{"six lists", book(1, list(0), list(0), list(0), list(0), list(0), list(0)), api.ErrMany},
		{"six wrong lists", book(1, make([][]int, 6)...), api.ErrMany},
		{"five empty lists", book(1, make([][]int, 5)...), api.ErrShape},
		{"an empty list at the end", book(2, list(0), list(1), list()), api.ErrShape},
		{"a shape before no stone", book(2, list(), list(2)), api.ErrShape},
		{"no stone before a shape", book(2, list(2), list()), api.ErrNone},
		{"a stone too great", book(3, list(3)), api.ErrNone},
		{"a stone too small", book(3, list(0, -1)), api.ErrNone},
		{"the greatest int", book(3, list(greatest)), api.ErrNone},
		{"the smallest int", book(3, list(smallest)), api.ErrNone},
		{"no stone, twice", book(3, list(3, 3)), api.ErrNone},
		{"no stone before a stone twice", book(3, list(0, 3, 0)), api.ErrNone},
		{"a stone twice before no stone", book(3, list(0, 0, 3)), api.ErrTwice},
		{"a stone twice, not side by side", book(3, list(0, 1, 2, 0)), api.ErrTwice},
		{"a stone twice at the end", book(3, list(0, 1), list(2, 0, 2)), api.ErrTwice},
		{"a stone twice before an empty list", book(3, list(1, 1), nil), api.ErrTwice},
	} {
		wantErrno(t, "Check of "+x.name, suit.Check(x.b), x.e)
		wantErrno(t, "the reference of "+x.name, checkOf(x.b), x.e)
	}
}

func TestCheckOfBooks(t *testing.T) { // P8.1
	for _, b := range smallBooks() {
		if e := suit.Check(b); e != api.OK {
			t.Fatalf("Check of %v: %d", b, e)
		}
	}
}

// spoilBook puts something wrong into some books.
func spoilBook(r *rand.Rand, b suit.Book) suit.Book {
	i := r.IntN(len(b.Lists))
	switch r.IntN(7) {
	case 0:
		b.Stones = anyOf(r, edges())
	case 1:
		b.Lists = nil
	case 2:
		b.Lists = append(b.Lists, b.Lists...)
	case 3:
		b.Lists[i] = nil
	case 4:
		b.Lists[i] = append(b.Lists[i], anyOf(r, edges()))
	case 5:
		b.Lists[i][r.IntN(len(b.Lists[i]))] = anyOf(r, edges())
	}
	return b
}

func TestErrorsOfBooksComeFirst(t *testing.T) { // P8.1
	r := newRandom()
	seen := map[api.Errno]int{}
	for range 20000 {
		b := spoilBook(r, randomBook(r, between(r, 1, 5), between(r, 1, 5)))
		wrong := checkOf(b)
		seen[wrong]++
		wantErrno(t, "Check", suit.Check(b), wrong)
		if wrong != api.OK {
			wantErrorOfBook(t, b, anyOf(r, [][]int{nil, list(-1), list(7, 7), make([]int, 9)}), wrong)
		}
		if t.Failed() {
			t.Fatalf("book %v", b)
		}
	}
	if len(seen) != 7 {
		t.Errorf("not each error was seen: %v", seen)
	}
}

// wantErrorOfBook checks that all functions return the error of a book.
func wantErrorOfBook(t *testing.T, b suit.Book, division []int, wrong api.Errno) {
	t.Helper()
	l, e := suit.Firsts(b)
	wantList(t, "Firsts", l, e, nil, wrong)
	wishes, e := suit.Wishes(b)
	wantList(t, "Wishes", wishes, e, nil, wrong)
	l, e = suit.First(b)
	wantList(t, "First", l, e, nil, wrong)
	l, e = suit.Largest(b)
	wantList(t, "Largest", l, e, nil, wrong)
	number, e := suit.Count(b)
	wantValue(t, "Count", number, e, 0, wrong)
	number, e = suit.Least(b)
	wantValue(t, "Least", number, e, 0, wrong)
	l, e = suit.Why(b)
	wantList(t, "Why", l, e, nil, wrong)
	wantErrno(t, "Proves", suit.Proves(b, division), wrong)
	wantErrorOfDivision(t, b, division, wrong)
}

// wantErrorOfDivision checks that all functions with divisions return an error.
func wantErrorOfDivision(t *testing.T, b suit.Book, division []int, wrong api.Errno) {
	t.Helper()
	wantErrno(t, "Valid", suit.Valid(b, division), wrong)
	l, e := suit.Places(b, division)
	wantList(t, "Places", l, e, nil, wrong)
	number, e := suit.Majority(b, division, make([]int, 9))
	wantValue(t, "Majority", number, e, 0, wrong)
	number, e = suit.Margin(b, division)
	wantValue(t, "Margin", number, e, 0, wrong)
	l, e = suit.Winner(b, division)
	wantList(t, "Winner", l, e, nil, wrong)
	is, e := suit.Popular(b, division)
	wantValue(t, "Popular", is, e, false, wrong)
	is, e = suit.Sound(b, division)
	wantValue(t, "Sound", is, e, false, wrong)
	l, e = suit.Better(b, division)
	wantList(t, "Better", l, e, nil, wrong)
}

func TestValid(t *testing.T) { // P8.4
	for _, x := range []struct {
		name     string
		division []int
		e        api.Errno
	}{
		{"nothing for anybody", list(-1, -1, -1), api.OK},
		{"second stones", list(1, 2, 0), api.OK},
		{"no division", nil, api.ErrShape},
		{"a number too many", list(0, 2, 1, -1), api.ErrShape},
		{"two wrong numbers", list(9, 9), api.ErrShape},
		{"-2", list(0, 2, -2), api.ErrNone},
		{"the smallest int", list(smallest, 0, 0), api.ErrNone},
		{"the greatest int", list(0, greatest, 0), api.ErrNone},
		{"no stone of the list", list(2, 0, 0), api.ErrLost},
		{"no stone of the list, and given", list(1, 1, 1), api.ErrLost},
		{"a stone twice", list(0, 2, 0), api.ErrTwice},
		{"a stone twice before no stone", list(0, 0, 3), api.ErrTwice},
		{"no stone before a stone twice", list(0, 3, 0), api.ErrNone},
		{"no stone of the list before no stone", list(0, 1, 3), api.ErrLost},
	} {
		wantErrno(t, "Valid of B: "+x.name, suit.Valid(bookB(), x.division), x.e)
		wantErrno(t, "the reference of "+x.name, validOf(bookB(), x.division), x.e)
	}
}

func TestValidOfAllLists(t *testing.T) { // P8.4
	r := newRandom()
	seen := map[api.Errno]int{}
	for _, b := range largeBooks(r) {
		lists := anyLists(len(b.Lists), append(list(-2, -1, greatest), upTo(b.Stones+1)...))
		for _, division := range append(someOf(r, lists, 500), make([]int, len(b.Lists)+1), make([]int, len(b.Lists)-1)) {
			wrong := validOf(b, division)
			seen[wrong]++
			wantErrno(t, "Valid", suit.Valid(b, division), wrong)
			if wrong != api.OK {
				wantErrorOfDivision(t, b, division, wrong)
				number, e := suit.Majority(b, slices.Repeat(list(-1), len(b.Lists)), division)
				wantValue(t, "Majority over it", number, e, 0, wrong)
			}
			if t.Failed() {
				t.Fatalf("book %v: %v", b, division)
			}
		}
	}
	if len(seen) != 5 {
		t.Errorf("not each error was seen: %v", seen)
	}
}

// allOrders returns all orders of so many stones, with numbers or without.
func allOrders(stones int) []grade.Order {
	all := []grade.Order{{Stones: stones}}
	for a := range stones {
		for b := range a {
			for _, o := range all {
				for _, pair := range [][2]int{{a, b}, {b, a}} {
					all = append(all, grade.Order{Stones: stones, Sharper: append(slices.Clone(o.Sharper), pair)})
				}
			}
		}
	}
	return all
}

func TestJudged(t *testing.T) { // P8.2
	seen := map[api.Errno]int{}
	for stones := 1; stones <= grade.MaxStones; stones++ {
		for _, o := range allOrders(stones) {
			ranks, e := grade.Ranks(o)
			var want []int
			if e == api.OK && !areDifferent(ranks) {
				e = api.ErrClash
			} else if e == api.OK {
				want = upTo(stones)
				slices.SortFunc(want, func(a, b int) int { return ranks[a] - ranks[b] })
			}
			seen[e]++
			l, got := suit.Judged(o)
			if wantList(t, "Judged", l, got, want, e); t.Failed() {
				t.Fatalf("order %v", o)
			}
		}
	}
	if len(seen) != 3 {
		t.Errorf("not each error was seen: %v", seen)
	}
}

func TestErrorsOfOrders(t *testing.T) { // P8.2
	for _, x := range []struct {
		name string
		o    grade.Order
		e    api.Errno
	}{
		{"no stones", order(0, nil), api.ErrRange},
		{"six stones", order(6, nil), api.ErrRange},
		{"eleven pairs", order(2, make([][2]int, 11)), api.ErrMany},
		{"no stone", order(2, [][2]int{{0, 2}}), api.ErrNone},
		{"a stone and itself", order(2, [][2]int{{1, 1}}), api.ErrClash},
		{"two stones twice", order(2, [][2]int{{0, 1}, {1, 0}}), api.ErrTwice},
	} {
		l, e := suit.Judged(x.o)
		wantList(t, "Judged of "+x.name, l, e, nil, x.e)
	}
}
