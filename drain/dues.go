package drain

import (
	"math"
	"slices"

	"novaculite/api"
)

// Dues returns the dues of a hill.
func Dues(h Hill) ([]Due, api.Errno) {
	if e := Check(h); e != api.OK {
		return nil, e
	}
	channels := channelsOf(h)
	if drained(channels) != allOf(h) {
		return nil, api.ErrLost // there is a trap just if a gallery is stuck (P2.10)
	}
	var dues []Due
	for {
		payer, found := nextPayer(h, channels)
		if !found {
			return dues, api.OK
		}
		paid := pay(channels, payer)
		dues = append(dues, Due{Group: payer.list(), Pay: paid})
	}
}

// Charged returns what each channel is charged.
func Charged(h Hill, dues []Due) ([]int, api.Errno) {
	if e := Check(h); e != api.OK {
		return nil, e
	}
	if e := checkDues(h, dues); e != api.OK {
		return nil, e
	}
	channels := channelsOf(h)
	charged := make([]int, len(channels))
	for _, d := range dues {
		for _, i := range leaving(channels, setOf(d.Group)) {
			charged[i] += d.Pay
		}
	}
	return charged, api.OK
}

// Proves checks dues as a proof for a plan.
func Proves(h Hill, plan []int, dues []Due) api.Errno {
	cost, e := Cost(h, plan)
	if e != api.OK {
		return e
	}
	charged, e := Charged(h, dues)
	if e != api.OK {
		return e
	}
	for i, c := range h.Channels {
		if charged[i] > c[2] {
			return api.ErrOver
		}
	}
	sum := 0
	for _, d := range dues {
		sum += d.Pay
	}
	if sum != cost {
		return api.ErrProof
	}
	return api.OK
}

func checkDues(h Hill, dues []Due) api.Errno {
	if len(dues) > MaxDues {
		return api.ErrMany
	}
	for _, d := range dues {
		if e := checkGroup(h, d.Group); e != api.OK {
			return e
		}
		if d.Pay < 1 || d.Pay > MaxPay {
			return api.ErrRange
		}
	}
	return api.OK
}

// nextPayer returns the group that pays next, and whether there is one.
func nextPayer(h Hill, channels []channel) (set, bool) {
	spent := func(s set) bool {
		return slices.ContainsFunc(channels, func(c channel) bool { return c.left == 0 && c.leaves(s) })
	}
	payers := slices.DeleteFunc(groupsOf(h), spent)
	for _, s := range payers {
		if !slices.ContainsFunc(payers, func(t set) bool { return t != s && t.within(s) }) {
			return s, true
		}
	}
	return 0, false
}

// pay takes what is least left of the channels that leave a set away from each
// of them, and returns it. At least one channel leaves the set.
func pay(channels []channel, s set) int {
	indices := leaving(channels, s)
	least := math.MaxInt
	for _, i := range indices {
		least = min(least, channels[i].left)
	}
	for _, i := range indices {
		channels[i].left -= least
	}
	return least
}
