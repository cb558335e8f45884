package mule

// group is some of the loads of a caravan: the bit of each of them is 1.
type group uint

func allOf(c Caravan) group { return 1<<len(c.Loads) - 1 }

func groupOf(list []int) group {
	var g group
	for _, load := range list {
		g = g.with(load)
	}
	return g
}

func (g group) has(load int) bool { return g>>load&1 == 1 }

func (g group) with(load int) group { return g | 1<<load }

func (g group) without(load int) group { return g &^ (1 << load) }

func (g group) list() []int {
	var list []int
	for load := range MaxLoads {
		if g.has(load) {
			list = append(list, load)
		}
	}
	return list
}

// links are, for each load, those that it goes before.
type links [MaxLoads]group

// linksOf is told pairs of loads that there are.
func linksOf(c Caravan) links {
	var l links
	for _, pair := range c.Before {
		l[pair[0]] = l[pair[0]].with(pair[1])
	}
	for over := range l {
		for load := range l {
			if l[load].has(over) {
				l[load] |= l[over]
			}
		}
	}
	return l
}

// clash reports whether some load goes before itself.
func (l links) clash() bool {
	for load, after := range l {
		if after.has(load) {
			return true
		}
	}
	return false
}

// starts returns those of a group that none of it goes before.
func (l links) starts(g group) group {
	starts := g
	for _, load := range g.list() {
		starts &^= l[load]
	}
	return starts
}

// ends returns those of a group that go before none of it.
func (l links) ends(g group) group {
	ends := g
	for _, load := range g.list() {
		if l[load]&g != 0 {
			ends = ends.without(load)
		}
	}
	return ends
}
