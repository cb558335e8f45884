package grade_test

import (
	"testing"

	"novaculite/api"
	"novaculite/grade"
)

// forAllClaims tells a check of lists of claims: all short ones about few
// stones, and random ones.
func forAllClaims(t *testing.T, check func(stones int, l []grade.Claim)) {
	t.Helper()
	tell := func(stones int, l []grade.Claim) {
		check(stones, l)
		if t.Failed() {
			t.Fatalf("%d stones, claims %v", stones, l)
		}
	}
	for stones := 1; stones <= grade.MaxStones; stones++ {
		tell(stones, nil)
	}
	for stones := 2; stones <= 3; stones++ {
		single := allClaims(stones)
		for number := 1; number <= 5-stones; number++ {
			for _, indices := range anyLists(number, upTo(len(single))) {
				tell(stones, chosen(single, indices))
			}
		}
	}
	r := newRandom()
	for range 1500 {
		stones := 1 + r.IntN(grade.MaxStones)
		tell(stones, randomClaims(r, stones, r.IntN(grade.MaxClaims+1)))
	}
	for range 100 {
		l := randomClaims(r, 5, grade.MaxClaims)
		tell(5, l)
		tell(5, trueOf(anyOf(r, numbered()[5]), l))
	}
}

// allClaims returns all claims about so many stones.
func allClaims(stones int) []grade.Claim {
	var all []grade.Claim
	for a := range stones {
		for b := range stones {
			if a != b {
				all = append(all, sharper(a, b), like(a, b))
			}
		}
	}
	return all
}

// trueOf returns claims about the same stones that are true of an order, all
// but the last one.
func trueOf(j judged, l []grade.Claim) []grade.Claim {
	var truths []grade.Claim
	for i, c := range l {
		switch {
		case i == len(l)-1:
			truths = append(truths, c)
		case j.over[c.A][c.B]:
			truths = append(truths, sharper(c.A, c.B))
		case j.over[c.B][c.A]:
			truths = append(truths, sharper(c.B, c.A))
		default:
			truths = append(truths, like(c.A, c.B))
		}
	}
	return truths
}

func TestTold(t *testing.T) { // P6.6
	for i, x := range []struct {
		stones int
		l      []grade.Claim
		want   api.Errno
	}{
		{1, nil, api.OK},
		{5, claims(), api.OK},
		{2, claims(sharper(0, 1), sharper(1, 0), like(0, 1), like(0, 1)), api.OK},
		{5, claims(like(4, 3), like(4, 2), like(4, 1), like(4, 0), like(3, 4), like(2, 4), like(1, 4), like(0, 4)), api.OK},
		{0, nil, api.ErrRange},
		{6, claims(like(0, 1)), api.ErrRange},
		{smallest, make([]grade.Claim, 9), api.ErrRange}, // ErrMany as well
		{greatest, claims(like(0, 0)), api.ErrRange},
		{3, make([]grade.Claim, 9), api.ErrMany}, // ErrClash as well
		{3, make([]grade.Claim, 8), api.ErrClash},
		{3, claims(like(0, 3)), api.ErrNone},
		{3, claims(sharper(3, 0)), api.ErrNone},
		{3, claims(sharper(-1, 0)), api.ErrNone},
		{3, claims(like(4, 4)), api.ErrNone}, // ErrClash as well
		{3, claims(like(0, greatest)), api.ErrNone},
		{3, claims(like(smallest, 0)), api.ErrNone},
		{1, claims(sharper(0, 0)), api.ErrClash},
		{3, claims(like(0, 1), like(2, 2), like(0, 9)), api.ErrClash},
		{3, claims(like(0, 1), like(0, 9), like(2, 2)), api.ErrNone},
	} {
		if e := grade.Told(x.stones, x.l); e != x.want {
			t.Errorf("Told %d: %d, want %d", i, e, x.want)
		}
	}
}

func TestToldOfAllClaims(t *testing.T) { // P6.6
	seen := map[api.Errno]int{}
	for _, stones := range edges() {
		for number := range 4 {
			of := list(smallest, -1, 0, 1, 4, 5, greatest)
			if number > 1 {
				of = list(-1, 0, 1, 2)
			}
			for _, numbers := range anyLists(2*number, of) {
				var l []grade.Claim
				for _, two := range pairs(numbers...) {
					l = append(l, grade.Claim{A: two[0], B: two[1], Sharper: numbers[0] == 0})
				}
				want := toldOf(stones, l)
				seen[want]++
				if e := grade.Told(stones, l); e != want {
					t.Fatalf("Told of %d, %v: %d, want %d", stones, l, e, want)
				}
			}
		}
	}
	if len(seen) != 4 {
		t.Errorf("not each error was seen: %v", seen)
	}
}

func TestErrorsOfClaimsComeFirst(t *testing.T) { // P6.6
	for i, x := range []struct {
		stones int
		l      []grade.Claim
	}{{0, nil}, {6, nil}, {smallest, nil}, {greatest, nil}, {3, make([]grade.Claim, 9)}, {3, claims(sharper(0, 3))}, {3, claims(like(1, 1))}} {
		want := toldOf(x.stones, x.l)
		wantErrno(t, "Told", grade.Told(x.stones, x.l), want)
		for _, two := range pairs(0, 1, 0, 9, -1, 0, 1, 1) {
			number, e := grade.Sure(x.stones, x.l, two[0], two[1])
			wantValue(t, "Sure", number, e, 0, want)
		}
		number, e := grade.Orders(x.stones, x.l)
		wantValue(t, "Orders", number, e, 0, want)
		l, e := grade.Why(x.stones, x.l)
		wantList(t, "Why", l, e, nil, want)
		l, e = grade.Wrong(x.stones, x.l)
		wantList(t, "Wrong", l, e, nil, want)
		if x.stones == 3 {
			is, e := grade.Agrees(orderW(), x.l)
			wantValue(t, "Agrees", is, e, false, want)
			is, e = grade.Agrees(order(3, 0, 1, 1, 2), x.l)
			wantValue(t, "Agrees", is, e, false, want)
		}
		if t.Failed() {
			t.Fatalf("claims %d", i)
		}
	}
}

func TestAgrees(t *testing.T) { // P6.6
	r := newRandom()
	forAllOrders(t, func(j judged) {
		is, e := grade.Agrees(j.told(), nil)
		wantValue(t, "Agrees without claims", is, e, hasNumbers(j), api.OK)
		for _, c := range allClaims(j.stones) {
			is, e := grade.Agrees(j.told(), claims(c))
			wantValue(t, "Agrees", is, e, hasNumbers(j) && j.bears(claims(c)), api.OK)
		}
		l := randomClaims(r, j.stones, 2+r.IntN(7))
		is, e = grade.Agrees(j.told(), l)
		wantValue(t, "Agrees with many claims", is, e, hasNumbers(j) && j.bears(l), api.OK)
		if l = trueOf(j, l); len(l) > 0 {
			is, e = grade.Agrees(j.told(), l[:len(l)-1])
			wantValue(t, "Agrees with true claims", is, e, hasNumbers(j), api.OK)
			is, e = grade.Agrees(j.told(), l)
			wantValue(t, "Agrees with claims true but for one", is, e, hasNumbers(j) && j.bears(l), api.OK)
		}
	})
}

func TestAgreesTakesStonesOfOrder(t *testing.T) { // P6.6
	for stones := 1; stones <= grade.MaxStones; stones++ {
		is, e := grade.Agrees(order(stones), claims(like(0, stones)))
		wantValue(t, "Agrees", is, e, false, api.ErrNone)
		is, e = grade.Agrees(order(stones), claims(like(0, 0)))
		wantValue(t, "Agrees", is, e, false, api.ErrClash)
	}
}

func TestSureOrders(t *testing.T) { // P6.7
	forAllClaims(t, func(stones int, l []grade.Claim) {
		number, e := grade.Orders(stones, l)
		wantValue(t, "Orders", number, e, len(agreeingOf(stones, l)), api.OK)
		for a := range stones {
			for b := range stones {
				want, wantE := 0, api.ErrTwice
				if a != b {
					want, wantE = sureOf(stones, l, a, b)
				}
				sure, e := grade.Sure(stones, l, a, b)
				wantValue(t, "Sure", sure, e, want, wantE)
			}
		}
	})
}

func TestSureOfWrongStones(t *testing.T) { // P6.7
	for stones := 1; stones <= grade.MaxStones; stones++ {
		for _, l := range [][]grade.Claim{nil, contradiction(stones)} {
			for _, wrong := range list(smallest, -1, stones, greatest) {
				for _, two := range pairs(0, wrong, wrong, 0, wrong, wrong) {
					sure, e := grade.Sure(stones, l, two[0], two[1])
					wantValue(t, "Sure of no stone", sure, e, 0, api.ErrNone)
				}
			}
			for stone := range stones {
				sure, e := grade.Sure(stones, l, stone, stone)
				wantValue(t, "Sure of a stone and itself", sure, e, 0, api.ErrTwice)
			}
		}
	}
}

// contradiction returns claims with which no order agrees, if there are any.
func contradiction(stones int) []grade.Claim {
	if stones == 1 {
		return nil
	}
	return claims(sharper(0, 1), like(1, 0))
}

func TestWhyWrong(t *testing.T) { // P6.8
	forAllClaims(t, func(stones int, l []grade.Claim) {
		var want []int
		if all := clashing(stones, l); len(all) > 0 {
			want = all[0]
		}
		why, e := grade.Why(stones, l)
		wantList(t, "Why", why, e, want, errorUnless(want != nil, api.ErrClash))
		wrong, e := grade.Wrong(stones, l)
		wantList(t, "Wrong", wrong, e, wrongOf(stones, l), api.OK)
	})
}

func TestShapes(t *testing.T) { // P6.9
	for stones := 1; stones <= grade.MaxStones; stones++ {
		seen := map[table]bool{}
		want := 0
		for _, j := range numbered()[stones] {
			if seen[j.over] {
				continue
			}
			want++
			for _, numbers := range permutations(stones) {
				seen[j.renumbered(numbers).over] = true
			}
		}
		number, e := grade.Shapes(stones)
		wantValue(t, "Shapes", number, e, want, api.OK)
	}
	for _, stones := range list(smallest, -1, 0, 6, greatest) {
		number, e := grade.Shapes(stones)
		wantValue(t, "Shapes", number, e, 0, api.ErrRange)
	}
}
