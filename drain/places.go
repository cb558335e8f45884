package drain

import "math/bits"

// place is where a channel leads to: a gallery, or the mouth.
type place interface {
	in(s set) bool
}

type gallery int

// mouth is the number of the mouth.
type mouth int

// set is a group of galleries, or none: the bit of each of them is 1.
type set uint

func (g gallery) in(s set) bool { return s>>g&1 == 1 }

func (mouth) in(set) bool { return false }

func (g gallery) alone() set { return 1 << g }

// channel leads from a gallery to a place; left is what is left of its cost.
type channel struct {
	from gallery
	to   place
	left int
}

func (c channel) leaves(s set) bool { return c.from.in(s) && !c.to.in(s) }

func placeOf(h Hill, number int) place {
	if number == h.Galleries {
		return mouth(number)
	}
	return gallery(number)
}

func channelsOf(h Hill) []channel {
	var channels []channel
	for _, c := range h.Channels {
		channels = append(channels, channel{from: gallery(c[0]), to: placeOf(h, c[1]), left: c[2]})
	}
	return channels
}

// leaving returns the channels that leave a set.
func leaving(channels []channel, s set) []int {
	var indices []int
	for i, c := range channels {
		if c.leaves(s) {
			indices = append(indices, i)
		}
	}
	return indices
}

func allOf(h Hill) set { return 1<<h.Galleries - 1 }

func setOf(group []int) set {
	var s set
	for _, g := range group {
		s |= gallery(g).alone()
	}
	return s
}

func (s set) list() []int {
	var group []int
	for i := range MaxGalleries {
		if gallery(i).in(s) {
			group = append(group, i)
		}
	}
	return group
}

func (s set) size() int { return bits.OnesCount(uint(s)) }

func (s set) within(other set) bool { return s&^other == 0 }

// groupsFrom returns all groups of the galleries from one number to below
// another one, in ascending order of their lists (R6).
func groupsFrom(first, end int) []set {
	var groups []set
	for i := first; i < end; i++ {
		one := gallery(i).alone()
		groups = append(groups, one)
		for _, rest := range groupsFrom(i+1, end) {
			groups = append(groups, one|rest)
		}
	}
	return groups
}

func groupsOf(h Hill) []set { return groupsFrom(0, h.Galleries) }

// drains reports whether water gets from a place to the mouth, if it does from
// the galleries of a set.
func drains(p place, done set) bool {
	switch at := p.(type) {
	case mouth:
		return true
	case gallery:
		return at.in(done)
	}
	return false // never: each place is a gallery, or the mouth
}

// drained returns the galleries from which a way leads to the mouth.
func drained(channels []channel) set {
	var done set
	for {
		before := done
		for _, c := range channels {
			if drains(c.to, done) {
				done |= c.from.alone()
			}
		}
		if done == before {
			return done
		}
	}
}

// wayFrom returns the places from one of them to the mouth. One of the channels
// leads from each gallery, and from each gallery a way leads to the mouth.
func wayFrom(p place, channels []channel) []int {
	var next [MaxGalleries]place
	for _, c := range channels {
		next[c.from] = c.to
	}
	var way []int
	for {
		switch at := p.(type) {
		case gallery:
			way = append(way, int(at))
			p = next[at]
		case mouth:
			return append(way, int(at))
		}
	}
}
