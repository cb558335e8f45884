package suit_test

import (
	"math/rand/v2"
	"slices"
	"testing"

	"novaculite/api"
	"novaculite/suit"
)

const (
	greatest = int(^uint(0) >> 1)
	smallest = -greatest - 1
)

func list(numbers ...int) []int { return numbers }

func book(stones int, lists ...[]int) suit.Book { return suit.Book{Stones: stones, Lists: lists} }

// The chapter's books.

func bookB() suit.Book { return book(3, list(0, 1), list(0, 2), list(1, 0)) }

func bookC() suit.Book { return book(3, list(0, 1, 2), list(0, 1, 2), list(0, 1, 2)) }

func cloneBook(b suit.Book) suit.Book {
	b.Lists = slices.Clone(b.Lists)
	for i, l := range b.Lists {
		b.Lists[i] = slices.Clone(l)
	}
	return b
}

func wantErrno(t *testing.T, call string, got, want api.Errno) {
	t.Helper()
	if got != want {
		t.Errorf("%s: error %d, want %d", call, got, want)
	}
}

func wantValue[T comparable](t *testing.T, call string, got T, e api.Errno, want T, wantE api.Errno) {
	t.Helper()
	if got != want || e != wantE {
		t.Errorf("%s: %v with error %d, want %v with %d", call, got, e, want, wantE)
	}
}

func wantList[T comparable](t *testing.T, call string, got []T, e api.Errno, want []T, wantE api.Errno) {
	t.Helper()
	if !slices.Equal(got, want) || e != wantE {
		t.Errorf("%s: %v with error %d, want %v with %d", call, got, e, want, wantE)
	}
}

// errorUnless returns an error unless there is a result.
func errorUnless(is bool, e api.Errno) api.Errno {
	if is {
		return api.OK
	}
	return e
}

func newRandom() *rand.Rand { return rand.New(rand.NewPCG(1, 2)) }

func anyOf[T any](r *rand.Rand, all []T) T { return all[r.IntN(len(all))] }

func between(r *rand.Rand, low, high int) int { return low + r.IntN(high-low+1) }

// edges returns the numbers at which an answer may change.
func edges() []int { return list(smallest, -2, -1, 0, 1, 2, 3, 4, 5, 6, greatest) }

// upTo returns the numbers from 0 on that are below a limit.
func upTo(limit int) []int {
	var l []int
	for i := range limit {
		l = append(l, i)
	}
	return l
}

// anyLists returns all lists of so many of some numbers; of ascending numbers in
// their order.
func anyLists(number int, of []int) [][]int {
	all := [][]int{nil}
	for range number {
		var longer [][]int
		for _, l := range all {
			for _, n := range of {
				longer = append(longer, append(slices.Clone(l), n))
			}
		}
		all = longer
	}
	return all
}

// listsOf returns all lists of different stones that a smith can have.
func listsOf(stones int) [][]int {
	var all [][]int
	for length := 1; length <= stones; length++ {
		for _, l := range anyLists(length, upTo(stones)) {
			if areDifferent(l) {
				all = append(all, l)
			}
		}
	}
	return all
}

func areDifferent(l []int) bool {
	return len(slices.Compact(slices.Sorted(slices.Values(l)))) == len(l)
}

// booksOf returns all books with so many stones and smiths.
func booksOf(stones, smiths int) []suit.Book {
	lists := listsOf(stones)
	var all []suit.Book
	for _, chosen := range anyLists(smiths, upTo(len(lists))) {
		b := suit.Book{Stones: stones}
		for _, i := range chosen {
			b.Lists = append(b.Lists, slices.Clone(lists[i]))
		}
		all = append(all, b)
	}
	return all
}

// smallBooks returns all books of few stones and smiths.
func smallBooks() []suit.Book {
	var all []suit.Book
	for stones, most := range list(0, 5, 4, 3) {
		for smiths := 1; smiths <= most; smiths++ {
			if stones > 0 {
				all = append(all, booksOf(stones, smiths)...)
			}
		}
	}
	return all
}

// randomBook returns a book of any size. In half of the books the lists begin
// alike, so that there is more to quarrel about.
func randomBook(r *rand.Rand, stones, smiths int) suit.Book {
	b := suit.Book{Stones: stones}
	common := r.Perm(stones)
	alike := r.IntN(2) == 0
	shortest := between(r, 1, stones)
	for range smiths {
		l := r.Perm(stones)
		if alike {
			l = slices.Clone(common)
			i, j := r.IntN(stones), r.IntN(stones)
			if r.IntN(3) == 0 {
				l[i], l[j] = l[j], l[i]
			}
		}
		b.Lists = append(b.Lists, l[:between(r, shortest, stones)])
	}
	return b
}

// largeBooks returns random books of 4 and 5 stones or smiths, some of them with
// as many divisions as there can be.
func largeBooks(r *rand.Rand) []suit.Book {
	var all []suit.Book
	for stones := 1; stones <= suit.MaxStones; stones++ {
		for smiths := 1; smiths <= suit.MaxSmiths; smiths++ {
			for range 6 {
				all = append(all, randomBook(r, stones, smiths))
			}
		}
	}
	return all
}

// forBooks tells a test all small books, and random large ones.
func forBooks(t *testing.T, test func(r *rand.Rand, b suit.Book)) {
	t.Helper()
	r := newRandom()
	for _, b := range append(smallBooks(), largeBooks(r)...) {
		if test(r, b); t.Failed() {
			t.Fatalf("book %v", b)
		}
	}
}

// someOf returns some elements of a list: all of a short one.
func someOf[T any](r *rand.Rand, all []T, most int) []T {
	if len(all) <= most {
		return all
	}
	var some []T
	for range most {
		some = append(some, anyOf(r, all))
	}
	return some
}
