package climb_test

import (
	"math"
	"slices"

	"aguador/api"
	"aguador/climb"
)

const (
	huge = math.MaxInt
	low  = math.MinInt
)

func span(lo, hi int) api.Span { return api.Span{Lo: lo, Hi: hi} }

func ints(l ...int) []int { return l }

func toil(steps, paces int) api.Toil { return api.Toil{Steps: steps, Paces: paces} }

func link(id, from, to, steps, paces int) api.Link {
	return api.Link{Id: id, From: from, To: to, Steps: steps, Paces: paces}
}

// chapter is the town of the chapter's examples.
func chapter() api.Town {
	return api.Town{
		Places: ints(1, 2, 3, 4),
		Links:  []api.Link{link(1, 1, 2, 50, 40), link(2, 1, 3, 0, 100), link(3, 3, 2, 20, 10), link(4, 2, 4, 0, 30)},
	}
}

// ring has walks from 1 to 5 of one toil: two of two links, by 2 and by 3, and one of three links, all of them lanes.
func ring() api.Town {
	return api.Town{
		Places: ints(1, 2, 3, 4, 5),
		Links:  []api.Link{link(1, 1, 4, 0, 1), link(2, 4, 2, 0, 2), link(3, 1, 3, 0, 3), link(4, 1, 2, 0, 3), link(5, 2, 5, 0, 3), link(6, 5, 3, 0, 3)},
	}
}

// row is places in a row, each with a stair of one step up to the next one.
func row(places int) api.Town {
	t := api.Town{Places: ints(1)}
	for i := 1; i < places; i++ {
		t.Places = append(t.Places, i+1)
		t.Links = append(t.Links, link(i, i, i+1, 1, 2))
	}
	return t
}

// wide has so many lanes, with the Ids 2, 4 and so on, beside each other.
func wide(links int) api.Town {
	t := api.Town{Places: ints(1, 2)}
	for i := range links {
		t.Links = append(t.Links, link(2*i+2, 1, 2, 0, i+1))
	}
	return t
}

// apart has two halves, with a link in each of them.
func apart() api.Town {
	return api.Town{Places: ints(1, 2, 3, 4), Links: []api.Link{link(1, 1, 2, 0, 1), link(2, 3, 4, 7, 1)}}
}

// great has as many places and links as there can be, each link as long and as high as it can be.
func great() api.Town {
	t := api.Town{}
	for i := range api.MaxPlaces {
		t.Places = append(t.Places, api.MaxId-api.MaxPlaces+1+i)
	}
	for i := range api.MaxLinks {
		from, to := t.Places[i%9], t.Places[(i+1+i/9)%9]
		t.Links = append(t.Links, link(api.MaxId-api.MaxLinks+1+i, from, to, api.MaxSteps, api.MaxPaces))
	}
	return t
}

func skin(drops int) api.Skin { return api.Skin{Drops: drops, Pace: span(1, 2), Step: span(0, 3)} }

func gait() api.Gait { return api.Gait{Pace: span(1, 2), Step: span(2, 3)} }

func same(a, b api.Town) bool {
	return slices.Equal(a.Places, b.Places) && slices.Equal(a.Links, b.Links)
}

// told is all results of a call.
type told struct {
	e    api.Errno
	n, l []int
	toil api.Toil
	x    api.Span
	town api.Town
}

func (a told) equal(b told) bool {
	return a.e == b.e && slices.Equal(a.n, b.n) && slices.Equal(a.l, b.l) && a.toil == b.toil && a.x == b.x && same(a.town, b.town)
}

// isZero reports whether all that is told beside the error is zero.
func (a told) isZero() bool {
	for _, n := range a.n {
		if n != 0 {
			return false
		}
	}
	return len(a.l) == 0 && a.toil == api.Toil{} && a.x == api.Span{} && same(a.town, api.Town{})
}

// given is what the calls are told beside the town.
type given struct {
	from, to           int
	donkey             bool
	walk, stops, links []int
	skin               api.Skin
	gait               api.Gait
	link               api.Link
}

// call is one of the functions, and what is asked of it.
type call struct {
	name string
	run  func(t api.Town) told
}

// calls has each function of the chapter, with these arguments.
func calls(g given) []call {
	return append([]call{
		{"Check", func(t api.Town) told { return told{e: climb.Check(t)} }},
		{"Reach", func(t api.Town) told { l, e := climb.Reach(t, g.from, g.donkey); return told{e: e, l: l} }},
		{"Walk", func(t api.Town) told {
			to, c, e := climb.Walk(t, g.from, g.walk)
			return told{e: e, n: ints(to), toil: c}
		}},
		{"Round", func(t api.Town) told {
			l, c, e := climb.Round(t, g.from, g.stops, g.donkey)
			return told{e: e, l: l, toil: c}
		}},
		{"Order", func(t api.Town) told {
			c, e := climb.Order(t, g.from, g.stops, g.donkey)
			return told{e: e, toil: c}
		}},
		{"End", func(t api.Town) told { x, e := climb.End(t, g.skin, g.from, g.walk); return told{e: e, x: x} }},
		{"Seconds", func(t api.Town) told { x, e := climb.Seconds(t, g.gait, g.from, g.walk); return told{e: e, x: x} }},
		{"Close", func(t api.Town) told { y, e := climb.Close(t, g.links); return told{e: e, town: y} }},
		{"Open", func(t api.Town) told { y, e := climb.Open(t, g.link); return told{e: e, town: y} }},
	}, callsOfWays(g)...)
}

// callsOfWays has the functions with a place to go to.
func callsOfWays(g given) []call {
	return []call{
		{"Way", func(t api.Town) told { l, e := climb.Way(t, g.from, g.to, g.donkey); return told{e: e, l: l} }},
		{"Toil", func(t api.Town) told { c, e := climb.Toil(t, g.from, g.to, g.donkey); return told{e: e, toil: c} }},
		{"Need", func(t api.Town) told { l, e := climb.Need(t, g.from, g.to, g.donkey); return told{e: e, l: l} }},
		{"Gate", func(t api.Town) told { l, e := climb.Gate(t, g.from, g.to, g.donkey); return told{e: e, l: l} }},
		{"Worst", func(t api.Town) told {
			id, c, e := climb.Worst(t, g.from, g.to, g.donkey)
			return told{e: e, n: ints(id), toil: c}
		}},
		{"Wet", func(t api.Town) told {
			l, n, e := climb.Wet(t, g.skin, g.from, g.to, g.donkey)
			return told{e: e, l: l, n: ints(n)}
		}},
		{"Minutes", func(t api.Town) told {
			x, e := climb.Minutes(t, g.gait, g.from, g.to, g.donkey)
			return told{e: e, x: x}
		}},
		{"Quick", func(t api.Town) told {
			l, x, e := climb.Quick(t, g.gait, g.from, g.to, g.donkey)
			return told{e: e, l: l, x: x}
		}},
	}
}
