package suit_test

import (
	"math/rand/v2"
	"testing"

	"novaculite/api"
	"novaculite/suit"
)

func TestFirstsWishes(t *testing.T) { // P8.3
	forBooks(t, func(_ *rand.Rand, b suit.Book) {
		firsts, e := suit.Firsts(b)
		wantList(t, "Firsts", firsts, e, firstsOf(b), api.OK)
		wishes, e := suit.Wishes(b)
		wantList(t, "Wishes", wishes, e, wishesOf(b), api.OK)
	})
}

func TestWhy(t *testing.T) { // P8.7, P8.10
	forBooks(t, func(_ *rand.Rand, b suit.Book) {
		none := len(allOf(b).popular()) == 0
		group, e := suit.Why(b)
		wantList(t, "Why", group, e, groupOf(b), errorUnless(none, api.ErrClash))
		if none {
			wantErrno(t, "Proves", suit.Proves(b, group), api.OK)
		}
	})
}

func TestProvesAllLists(t *testing.T) { // P8.7, P8.10
	seen := map[api.Errno]int{}
	forBooks(t, func(r *rand.Rand, b suit.Book) {
		lists := anyLists(between(r, 0, len(b.Lists)+1), append(list(-1), upTo(len(b.Lists)+1)...))
		none := len(allOf(b).popular()) == 0
		for _, smiths := range append(someOf(r, lists, 200), upTo(len(b.Lists))) {
			e := suit.Proves(b, smiths)
			wantErrno(t, "Proves", e, provesOf(b, smiths))
			seen[e]++
			if e == api.OK && !none {
				t.Errorf("%v proves what is not so", smiths)
			}
		}
	})
	if len(seen) != 5 {
		t.Errorf("not each error was seen: %v", seen)
	}
}

func TestErrorsOfProves(t *testing.T) { // P8.7
	for _, x := range []struct {
		name   string
		smiths []int
		e      api.Errno
	}{
		{"no smiths", list(), api.ErrEmpty},
		{"-1", list(-1), api.ErrNone},
		{"the smallest int", list(smallest), api.ErrNone},
		{"the greatest int", list(0, 1, greatest), api.ErrNone},
		{"no smith, and not greater", list(1, -1), api.ErrNone},
		{"no smith before an order", list(3, 2), api.ErrNone},
		{"an order before no smith", list(1, 0, 9), api.ErrOrder},
		{"a smith twice", list(0, 1, 1), api.ErrOrder},
		{"all smiths, turned", list(2, 1, 0), api.ErrOrder},
		{"all smiths, and one twice", list(0, 1, 2, 2), api.ErrOrder},
	} {
		wantErrno(t, "Proves of C: "+x.name, suit.Proves(bookC(), x.smiths), x.e)
	}
}

func TestShortGroupsHaveSecondWishes(t *testing.T) { // P8.7
	one := book(1, list(0), list(0), list(0))
	wantErrno(t, "Proves", suit.Proves(one, list(0, 1, 2)), api.ErrProof)
	// the smiths 1, 2 and 3 want two stones; with the smith 0 it is one more
	more := book(3, list(2), list(0, 1), list(0, 1), list(0, 1))
	wantErrno(t, "Proves", suit.Proves(more, list(1, 2, 3)), api.OK)
	wantErrno(t, "Proves with the smith 0", suit.Proves(more, list(0, 1, 2, 3)), api.ErrProof)
	group, e := suit.Why(more)
	wantList(t, "Why", group, e, list(1, 2, 3), api.OK)
}

func TestFirstOfTheSmallestShortGroups(t *testing.T) { // P8.7
	for _, x := range []struct {
		name string
		b    suit.Book
		want []int
	}{
		{"four smiths want two stones", book(2, list(0, 1), list(0, 1), list(0, 1), list(0, 1)), list(0, 1, 2)},
		{"a stone for the smith 1 alone", book(3, list(0, 1), list(0, 2), list(0, 1), list(0, 1)), list(0, 2, 3)},
		{"four smiths want three stones", book(3, list(0, 1), list(0, 1), list(0, 2), list(0, 2)), list(0, 1, 2, 3)},
		{"a smith without a second wish among them", book(4, list(0, 1), list(3), list(0, 2), list(0, 2), list(0, 1)), list(0, 2, 3, 4)},
		{"a shorter group behind a longer one", book(3, list(0, 1), list(0, 1), list(0, 2), list(0, 2), list(0, 2)), list(2, 3, 4)},
		{"five smiths want four stones", book(4, list(0, 2), list(0, 3), list(1, 2), list(1, 3), list(0, 2)), list(0, 1, 2, 3, 4)},
	} {
		group, e := suit.Why(x.b)
		wantList(t, "Why: "+x.name, group, e, x.want, api.OK)
		wantErrno(t, "Proves: "+x.name, suit.Proves(x.b, group), api.OK)
	}
	four := book(2, list(0, 1), list(0, 1), list(0, 1), list(0, 1))
	wantErrno(t, "Proves of all", suit.Proves(four, list(0, 1, 2, 3)), api.OK)
	wantErrno(t, "Proves of the last ones", suit.Proves(four, list(1, 2, 3)), api.OK)
}
