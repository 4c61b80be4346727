package climb

import (
	"iter"
	"maps"
	"slices"

	"aguador/api"
)

// chart is a map at work: its town is valid, and links of it can be closed.
type chart struct {
	api.Town
	donkey bool
	closed []int
}

// walk is where one leads by links, its toil, and the steps of all its stairs, up or down.
type walk struct {
	links  []int
	to     int
	toil   api.Toil
	stairs int
}

// cost is what decides between two walks before the Ids of their links do: a price (drops, seconds or steps), the steps, the paces, and how many links.
type cost [4]int

// tour is an order of stops, and the toil of all ways from the base over them and back.
type tour struct {
	stops []int
	toil  api.Toil
}

// detour is a link that is closed, and the toil of the way without it.
type detour struct {
	link int
	toil api.Toil
}

// leak is a skin on the way.
type leak struct{ api.Skin }

// speed is a gait on the way.
type speed struct{ api.Gait }

// first returns the first thing by an order; of several, the one that stands first.
func first[T any](l []T, before func(a, b T) bool) T {
	var best T
	for i, x := range l {
		if i == 0 || before(x, best) {
			best = x
		}
	}
	return best
}

func isLess(a, b api.Toil) bool {
	return a.Steps < b.Steps || a.Steps == b.Steps && a.Paces < b.Paces
}

func sum(a, b api.Toil) api.Toil { return api.Toil{Steps: a.Steps + b.Steps, Paces: a.Paces + b.Paces} }

// total returns what paces and steps come to, at least and at most.
func total(paces int, pace api.Span, steps int, step api.Span) api.Span {
	return span(paces*pace.Lo+steps*step.Lo, paces*pace.Hi+steps*step.Hi)
}

// loses returns how many drops a skin loses by a walk, as if there were enough in it.
func (s leak) loses(w walk) api.Span { return total(w.toil.Paces, s.Pace, w.stairs, s.Step) }

func (s leak) losesAtMost(w walk) int { return s.loses(w).Hi }

// holds returns how many drops are left in a skin at the end of a walk.
func (s leak) holds(w walk) api.Span {
	x := s.loses(w)
	return span(max(0, s.Drops-x.Hi), max(0, s.Drops-x.Lo))
}

func (g speed) seconds(w walk) api.Span { return total(w.toil.Paces, g.Pace, w.toil.Steps, g.Step) }

func (g speed) secondsAtMost(w walk) int { return g.seconds(w).Hi }

func (w walk) climbs() int { return w.toil.Steps }

// then returns the walk with a link more, in memory of its own.
func (w walk) then(x api.Link) walk {
	w.links = append(slices.Clone(w.links), x.Id)
	w.toil.Paces += x.Paces
	w.stairs += x.Steps
	if w.to == x.To {
		w.to = x.From
		return w
	}
	w.to = x.To
	w.toil.Steps += x.Steps
	return w
}

// cost returns what a walk costs, with the price ahead of its toil.
func (w walk) cost(price func(walk) int) cost {
	return cost{price(w), w.toil.Steps, w.toil.Paces, len(w.links)}
}

// byCost returns the order of walks in which the one comes first that costs least.
func byCost(price func(walk) int) func(a, b walk) bool {
	return func(a, b walk) bool {
		x, y := a.cost(price), b.cost(price)
		if x != y {
			return slices.Compare(x[:], y[:]) < 0
		}
		return slices.Compare(a.links, b.links) < 0
	}
}

// leads yields the links that can be gone from a place.
func (m chart) leads(from int) iter.Seq[api.Link] {
	return func(yield func(api.Link) bool) {
	next:
		for _, x := range m.Links {
			for _, id := range m.closed {
				if x.Id == id {
					continue next
				}
			}
			isHere := x.From == from || x.To == from
			isBarred := m.donkey && x.Steps > 0
			if isHere && !isBarred && !yield(x) {
				return
			}
		}
	}
}

// closing returns the map on which links are closed.
func (m chart) closing(ids ...int) chart {
	m.closed = ids
	return m
}

// linksOf returns the links from and to a place. A walk cannot go by a place of which all are closed.
func (m chart) linksOf(place int) []int {
	var l []int
	for x := range m.leads(place) {
		l = append(l, x.Id)
	}
	return l
}

// along returns the walk from a place by links, and false if one of them does not lead on.
func (m chart) along(from int, ids []int) (walk, bool) {
	w := walk{to: from}
	for _, id := range ids {
		ok := false
		for x := range m.leads(w.to) {
			if x.Id == id {
				w, ok = w.then(x), true
				break
			}
		}
		if !ok {
			return walk{}, false
		}
	}
	return w, true
}

func (m chart) isWalk(from int, ids []int) bool {
	if len(ids) > api.MaxWalk {
		return false
	}
	_, ok := m.along(from, ids)
	return ok
}

// best returns the walk from a place to each one that can be reached, of which the price is least, and which is before all others of these. With a link more each walk costs more, since a link has a pace at least: so the walk that costs least of all that are open can be settled.
func (m chart) best(from int, price func(walk) int) map[int]walk {
	before := byCost(price)
	settled := map[int]walk{}
	open := map[int]walk{from: {to: from}}
	for len(open) > 0 {
		w := first(slices.Collect(maps.Values(open)), before)
		delete(open, w.to)
		settled[w.to] = w
		for x := range m.leads(w.to) {
			longer := w.then(x)
			if _, ok := settled[longer.to]; ok {
				continue
			}
			if old, ok := open[longer.to]; !ok || before(longer, old) {
				open[longer.to] = longer
			}
		}
	}
	return settled
}

// ways returns the way from a place to each one that can be reached.
func (m chart) ways(from int) map[int]walk { return m.best(from, walk.climbs) }

func (m chart) canReach(from, to int) bool {
	_, ok := m.ways(from)[to]
	return ok
}

// detours returns the links without which there still is a walk.
func (m chart) detours(from, to int) []detour {
	var l []detour
	for _, x := range m.Links {
		if w, ok := m.closing(x.Id).ways(from)[to]; ok {
			l = append(l, detour{x.Id, w.toil})
		}
	}
	return l
}

// legs returns the toil of the ways from some places, by both ends of each.
func (m chart) legs(places ...int) map[[2]int]api.Toil {
	l := map[[2]int]api.Toil{}
	for _, from := range places {
		for to, w := range m.ways(from) {
			l[[2]int{from, to}] = w.toil
		}
	}
	return l
}

// tours returns all orders of stops of which each way can be gone.
func (m chart) tours(base int, stops []int) []tour {
	legs := m.legs(append([]int{base}, stops...)...)
	var all []tour
	var try func(t tour, at int)
	try = func(t tour, at int) {
		if len(t.stops) == len(stops) {
			if back, ok := legs[[2]int{at, base}]; ok {
				all = append(all, tour{t.stops, sum(t.toil, back)})
			}
			return
		}
		for i := range len(stops) {
			leg, ok := legs[[2]int{at, stops[i]}]
			if ok && !slices.Contains(t.stops, stops[i]) {
				try(tour{append(slices.Clone(t.stops), stops[i]), sum(t.toil, leg)}, stops[i])
			}
		}
	}
	try(tour{}, base)
	return all
}

// copied returns a town that shares no memory with another one.
func copied(t api.Town) api.Town {
	return api.Town{Places: slices.Clone(t.Places), Links: slices.Clone(t.Links)}
}
