package climb_test

import (
	"slices"

	"aguador/api"
)

// trip is a walk that comes to no place twice, or the walk that a list of Ids is: its links, the places to which it comes, from the first one on, and what is climbed and gone down.
type trip struct {
	links, places []int
	up, down      int
	paces         int
}

func (a trip) toil() api.Toil { return toil(a.up, a.paces) }

// last is where one is at its end.
func (a trip) last() int { return a.places[len(a.places)-1] }

// drops is how many a skin loses, as if there were enough in it.
func (a trip) drops(s api.Skin) api.Span {
	steps := a.up + a.down
	return span(a.paces*s.Pace.Lo+steps*s.Step.Lo, a.paces*s.Pace.Hi+steps*s.Step.Hi)
}

func (a trip) seconds(g api.Gait) api.Span {
	return span(a.paces*g.Pace.Lo+a.up*g.Step.Lo, a.paces*g.Pace.Hi+a.up*g.Step.Hi)
}

// with is the trip with a link more, which begins where the trip ends.
func (a trip) with(x api.Link) trip {
	b := trip{append(slices.Clone(a.links), x.Id), slices.Clone(a.places), a.up, a.down, a.paces + x.Paces}
	if a.last() == x.From {
		b.up += x.Steps
		b.places = append(b.places, x.To)
	} else {
		b.down += x.Steps
		b.places = append(b.places, x.From)
	}
	return b
}

// trips lists all walks from a place to another one that come to no place twice: one that does has more paces than the one without its rings.
func trips(t api.Town, from, to int, donkey bool) []trip {
	var all []trip
	var follow func(a trip)
	follow = func(a trip) {
		if a.last() == to {
			all = append(all, a)
			return
		}
		for _, x := range t.Links {
			if donkey && x.Steps > 0 || x.From != a.last() && x.To != a.last() {
				continue
			}
			if b := a.with(x); !slices.Contains(a.places, b.last()) {
				follow(b)
			}
		}
	}
	follow(trip{places: ints(from)})
	return all
}

// compared is less than 0 if the first walk is before the other one.
func compared(a, b trip) int {
	if n := comparedToils(a.toil(), b.toil()); n != 0 {
		return n
	}
	if n := len(a.links) - len(b.links); n != 0 {
		return n
	}
	return slices.Compare(a.links, b.links)
}

func comparedToils(a, b api.Toil) int {
	if a.Steps != b.Steps {
		return a.Steps - b.Steps
	}
	return a.Paces - b.Paces
}

// bestOf is the walk of which something is least, and which is before all others of these.
func bestOf(all []trip, asked func(a trip) int) trip {
	return slices.MinFunc(all, func(a, b trip) int {
		if n := asked(a) - asked(b); n != 0 {
			return n
		}
		return compared(a, b)
	})
}

// wayOf is the way, of some walks of which there is one at least.
func wayOf(all []trip) trip { return slices.MinFunc(all, compared) }

// without is the town without a link.
func without(t api.Town, id int) api.Town {
	t.Links = slices.DeleteFunc(slices.Clone(t.Links), func(x api.Link) bool { return x.Id == id })
	return t
}

// worstOf is what Worst has to return.
func worstOf(t api.Town, from, to int, donkey bool) (id int, worst api.Toil, e api.Errno) {
	e = api.ErrNone
	for _, x := range t.Links {
		all := trips(without(t, x.Id), from, to, donkey)
		if len(all) == 0 {
			continue
		}
		if c := wayOf(all).toil(); e != api.OK || comparedToils(c, worst) > 0 {
			id, worst, e = x.Id, c, api.OK
		}
	}
	return id, worst, e
}

// orders lists all orders of some places, in order.
func orders(places []int) [][]int {
	if len(places) == 0 {
		return [][]int{nil}
	}
	var all [][]int
	for i, place := range slices.Sorted(slices.Values(places)) {
		rest := slices.Delete(slices.Sorted(slices.Values(places)), i, i+1)
		for _, l := range orders(rest) {
			all = append(all, append(ints(place), l...))
		}
	}
	return all
}

// orderOf is what Order has to return.
func orderOf(t api.Town, base int, stops []int, donkey bool) (c api.Toil, e api.Errno) {
	at := base
	for _, place := range append(slices.Clone(stops), base) {
		all := trips(t, at, place, donkey)
		if len(all) == 0 {
			return api.Toil{}, api.ErrNone
		}
		leg := wayOf(all).toil()
		c = toil(c.Steps+leg.Steps, c.Paces+leg.Paces)
		at = place
	}
	return c, api.OK
}

// roundOf is what Round has to return.
func roundOf(t api.Town, base int, stops []int, donkey bool) (best []int, least api.Toil, e api.Errno) {
	e = api.ErrNone
	for _, l := range orders(stops) {
		c, f := orderOf(t, base, l, donkey)
		if f == api.OK && (e != api.OK || comparedToils(c, least) < 0) {
			best, least, e = l, c, api.OK
		}
	}
	return best, least, e
}

// dice is a row of numbers that looks thrown, the same in each run.
type dice struct{ state uint64 }

// upTo returns a number from lo to hi.
func (d *dice) upTo(lo, hi int) int {
	d.state = d.state*6364136223846793005 + 1442695040888963407
	return lo + int(d.state>>33)%(hi-lo+1)
}

func (d *dice) span(lo, hi int) api.Span {
	a, b := d.upTo(lo, hi), d.upTo(lo, hi)
	return span(min(a, b), max(a, b))
}

func (d *dice) one(l []int) int { return l[d.upTo(0, len(l)-1)] }

// link is one between two of the places; about half of them are lanes, and many are alike.
func (d *dice) link(places []int, id int) api.Link {
	x := link(id, d.one(places), d.one(places), max(0, d.upTo(-3, 3)), d.upTo(1, 3))
	for x.From == x.To {
		x.To = d.one(places)
	}
	return x
}

// town is a small one, so that all its walks can be listed.
func (d *dice) town(places, links int) api.Town {
	var t api.Town
	for i := range d.upTo(1, places) {
		t.Places = append(t.Places, 5*i+d.upTo(1, 5))
	}
	if len(t.Places) == 1 {
		return t
	}
	for i := range d.upTo(0, links) {
		t.Links = append(t.Links, d.link(t.Places, 3*i+d.upTo(1, 3)))
	}
	return t
}

// stops is some places but the base, in any order.
func (d *dice) stops(t api.Town, base, most int) []int {
	var l []int
	for range most {
		if place := d.one(t.Places); place != base && !slices.Contains(l, place) {
			l = append(l, place)
		}
	}
	return l
}

// stroll is a walk that goes on by any link there is, without a donkey.
func (d *dice) stroll(t api.Town, from, links int) trip {
	a := trip{places: ints(from)}
	for range links {
		var next []trip
		for _, x := range t.Links {
			if x.From == a.last() || x.To == a.last() {
				next = append(next, a.with(x))
			}
		}
		if len(next) == 0 {
			return a
		}
		a = next[d.upTo(0, len(next)-1)]
	}
	return a
}

func (d *dice) skin() api.Skin {
	return api.Skin{Drops: d.upTo(0, 90), Pace: d.span(0, 6), Step: d.span(0, 9)}
}

// gait is mostly one by which steps take less time than paces, so that the way is not always the quickest walk.
func (d *dice) gait() api.Gait {
	return api.Gait{Pace: d.span(0, 20), Step: d.span(0, d.upTo(0, 20))}
}
