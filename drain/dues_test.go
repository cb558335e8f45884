package drain_test

import (
	"slices"
	"testing"

	"novaculite/api"
	"novaculite/drain"
)

func TestDues(t *testing.T) { // P2.6
	for _, x := range []struct {
		h    drain.Hill
		want []drain.Due
	}{
		{hill(1, 0, 1, 20), []drain.Due{due(20, 0)}},
		{hill(2, 0, 2, 0, 1, 2, 0, 0, 1, 5, 1, 0, 5), nil},
		{hill(2, 0, 2, 3, 1, 2, 0, 0, 1, 5, 1, 0, 5), []drain.Due{due(3, 0)}},
		{hill(2, 0, 1, 0, 1, 0, 0, 0, 2, 7, 1, 2, 9), []drain.Due{due(7, 0, 1)}},
		{hill(2, 0, 1, 0, 1, 0, 4, 0, 2, 7, 1, 2, 9), []drain.Due{due(4, 1), due(5, 0, 1)}}, // 1 is within 0 1
		{hill(3, 0, 1, 0, 1, 0, 0, 2, 3, 6, 0, 3, 2), []drain.Due{due(2, 0, 1), due(6, 2)}}, // 0 1 comes before 2
		{hill(3, 1, 2, 1, 2, 1, 1, 1, 3, 4, 0, 3, 2), []drain.Due{due(2, 0), due(1, 1), due(1, 2), due(3, 1, 2)}},
		{
			hill(4, 0, 1, 1, 1, 0, 1, 2, 3, 1, 3, 2, 1, 1, 2, 3, 3, 0, 3, 0, 4, 20),
			[]drain.Due{due(1, 0), due(1, 1), due(2, 0, 1), due(1, 2), due(1, 3), due(2, 2, 3), due(17, 0, 1, 2, 3)},
		},
	} {
		d, e := drain.Dues(x.h)
		wantDues(t, "Dues", d, e, x.want, api.OK)
	}
}

func TestDuesOfRandomHills(t *testing.T) { // P2.6
	r := newRandom()
	for range 300 {
		h := randomHill(r)
		d, e := drain.Dues(h)
		if trapOf(h) != nil {
			wantDues(t, "Dues", d, e, nil, api.ErrLost)
			continue
		}
		wantDues(t, "Dues", d, e, duesOf(h), api.OK)
		l, e := drain.Charged(h, d)
		wantList(t, "Charged", l, e, chargedOf(h, d), api.OK)
	}
}

func TestCharged(t *testing.T) { // P2.6
	twenty := slices.Repeat([]drain.Due{due(280, 0, 1)}, drain.MaxDues)
	for i, x := range []struct {
		dues []drain.Due
		want []int
		e    api.Errno
	}{
		{nil, make([]int, 6), api.OK},
		{twenty, list(0, 0, 5600, 5600, 0, 0), api.OK},
		{[]drain.Due{due(1, 0, 1, 2), due(2, 0, 1, 2)}, list(0, 0, 3, 3, 0, 3), api.OK},
		{append(twenty, due(1, 0)), nil, api.ErrMany},
		{make([]drain.Due, 21), nil, api.ErrMany},
		{[]drain.Due{due(1, 0), due(0)}, nil, api.ErrEmpty},
		{[]drain.Due{due(1, 0), due(0, 3)}, nil, api.ErrNone},
		{[]drain.Due{due(1, 0), due(0, 2, 1)}, nil, api.ErrOrder},
		{[]drain.Due{due(1, 0), due(0, 1), due(1)}, nil, api.ErrRange},
		{[]drain.Due{due(281, 0)}, nil, api.ErrRange},
		{[]drain.Due{due(-1, 0)}, nil, api.ErrRange},
		{[]drain.Due{due(greatest, 0)}, nil, api.ErrRange},
		{[]drain.Due{due(smallest, 0)}, nil, api.ErrRange},
		{[]drain.Due{due(281, 0), due(1, -1)}, nil, api.ErrRange},
		{[]drain.Due{due(1, -1), due(281, 0)}, nil, api.ErrNone},
	} {
		l, e := drain.Charged(hillH(), x.dues)
		if !slices.Equal(l, x.want) || e != x.e {
			t.Errorf("Charged %d: %v with error %d, want %v with %d", i, l, e, x.want, x.e)
		}
		if x.e != api.OK {
			wantErrno(t, "Proves", drain.Proves(hillH(), list(0, 3, 4), x.dues), x.e)
		}
	}
	l, e := drain.Charged(hill(2), []drain.Due{due(1, 0)})
	wantList(t, "Charged of no channels", l, e, nil, api.OK)
}

func TestProves(t *testing.T) { // P2.6
	for i, x := range []struct {
		h    drain.Hill
		plan []int
		dues []drain.Due
		want api.Errno
	}{
		{hillL(), list(0), nil, api.OK},
		{hillL(), list(0), []drain.Due{due(1, 0)}, api.ErrOver},
		{hillH(), list(0, 3, 4), []drain.Due{due(2, 2), due(3, 0, 1), due(1, 1), due(1, 0)}, api.OK},
		{hillH(), list(0, 3, 4), []drain.Due{due(1, 2), due(3, 0, 1), due(1, 1), due(1, 0), due(1, 2)}, api.OK},
		{hillH(), list(0, 3, 4), duesH()[1:], api.ErrProof},
		{hillH(), list(0, 3, 4), nil, api.ErrProof},
		{hillH(), list(1, 2, 4), duesH(), api.ErrProof},
		{hillH(), list(0, 3, 5), append(duesH(), due(1, 2)), api.ErrOver},
		{hillH(), list(0, 3), make([]drain.Due, 21), api.ErrOpen},
		{hillH(), list(0, 1, 4), []drain.Due{due(0)}, api.ErrClash},
		{hillH(), list(0, 9), nil, api.ErrNone},
	} {
		if e := drain.Proves(x.h, x.plan, x.dues); e != x.want {
			t.Errorf("Proves %d: error %d, want %d", i, e, x.want)
		}
	}
}
