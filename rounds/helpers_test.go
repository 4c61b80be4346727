package rounds_test

import (
	"math"
	"slices"
	"testing"

	"aguador/api"
	"aguador/rounds"
)

const (
	huge = math.MaxInt
	low  = math.MinInt
)

func span(lo, hi int) api.Span { return api.Span{Lo: lo, Hi: hi} }

func ints(l ...int) []int { return l }

func lists(l ...[]int) [][]int { return l }

func toil(steps, paces int) api.Toil { return api.Toil{Steps: steps, Paces: paces} }

// wants is a jar of six pints over three days, in each of which two are wanted.
func wants(start int) api.Jar {
	return api.Jar{Full: 6, Days: 3, Start: span(start, start), Use: span(2, 2), Week: span(0, 35)}
}

// over is a jar with another number of days.
func over(days int, j api.Jar) api.Jar {
	j.Days = days
	return j
}

func home(id, place int, j api.Jar) api.Home {
	return api.Home{Id: id, Place: place, Pays: true, Jar: j}
}

func carrier(id, base, skins int, homes ...int) api.Carrier {
	return api.Carrier{Id: id, Base: base, Skins: skins, Homes: homes}
}

func donkey(id, base, skins int, homes ...int) api.Carrier {
	c := carrier(id, base, skins, homes...)
	c.Donkey = true
	return c
}

// change is what is other in some rounds than in the chapter's.
type change func(r *api.Rounds)

// chapter is the rounds of the chapter's examples, with changes.
func chapter(changes ...change) api.Rounds {
	r := api.Rounds{
		Town: api.Town{
			Places: ints(1, 2, 3),
			Links:  []api.Link{{Id: 1, From: 1, To: 2, Steps: 50, Paces: 40}, {Id: 2, From: 1, To: 3, Paces: 100}, {Id: 3, From: 3, To: 2, Steps: 20, Paces: 10}},
		},
		Days: 3, Pints: 2,
		Homes:    []api.Home{home(10, 2, wants(3)), home(20, 3, wants(4))},
		Carriers: []api.Carrier{carrier(1, 1, 2, 10, 20), donkey(2, 1, 1, 20)},
	}
	for _, f := range changes {
		f(&r)
	}
	return r
}

func homes(l ...api.Home) change { return func(r *api.Rounds) { r.Homes = l } }

func carriers(l ...api.Carrier) change { return func(r *api.Rounds) { r.Carriers = l } }

func days(from, many int) change {
	return func(r *api.Rounds) { r.From, r.Days = from, many }
}

func pints(n int) change { return func(r *api.Rounds) { r.Pints = n } }

// jars gives other jars to the first homes.
func jars(l ...api.Jar) change {
	return func(r *api.Rounds) {
		for i, j := range l {
			r.Homes[i].Jar = j
		}
	}
}

// free are homes that do not pay, by their indices.
func free(l ...int) change {
	return func(r *api.Rounds) {
		for _, i := range l {
			r.Homes[i].Pays = false
		}
	}
}

// torn makes the jars of homes such that there is no truth, by their indices.
func torn(l ...int) change {
	return func(r *api.Rounds) {
		for _, i := range l {
			r.Homes[i].Jar.Week = span(0, 5)
		}
	}
}

// great has as much of everything as there can be.
func great() api.Rounds {
	r := api.Rounds{From: 6, Days: 4, Pints: 20}
	for i := range api.MaxPlaces {
		r.Town.Places = append(r.Town.Places, api.MaxId-8+i)
	}
	for i := range api.MaxLinks {
		from, to := r.Town.Places[i%9], r.Town.Places[(i%9+1+i/9)%9]
		r.Town.Links = append(r.Town.Links, api.Link{Id: api.MaxId - 19 + i, From: from, To: to, Steps: 500 * (i % 2), Paces: 2000})
	}
	for i := range api.MaxHomes {
		j := api.Jar{Full: 20, Days: 10, Start: span(0, 20), Use: span(0, 5), Week: span(0, 35), May: api.KnownOpen}
		for k := range api.MaxSights {
			j.Sights = append(j.Sights, api.Sight{Id: api.MaxId - 11 + k, Day: 5, Pints: span(0, 20)})
			j.Brings = append(j.Brings, api.Bring{Day: k / 2, Pints: 20})
		}
		r.Homes = append(r.Homes, home(api.MaxId-3+i, api.MaxId-2*i, j))
	}
	for i := range api.MaxCarriers {
		r.Carriers = append(r.Carriers, carrier(api.MaxId-2+i, api.MaxId-3*i, 4, api.MaxId-3, api.MaxId-2, api.MaxId-1, api.MaxId))
	}
	return r
}

func sameLists(a, b [][]int) bool { return slices.EqualFunc(a, b, slices.Equal[[]int]) }

func sameHome(a, b api.Home) bool {
	j, k := a.Jar, b.Jar
	return a.Id == b.Id && a.Place == b.Place && a.Pays == b.Pays &&
		j.Full == k.Full && j.Days == k.Days && j.Start == k.Start && j.Use == k.Use && j.Week == k.Week && j.May == k.May &&
		slices.Equal(j.Sights, k.Sights) && slices.Equal(j.Brings, k.Brings)
}

func sameCarrier(a, b api.Carrier) bool {
	return a.Id == b.Id && a.Base == b.Base && a.Donkey == b.Donkey && a.Skins == b.Skins && slices.Equal(a.Homes, b.Homes)
}

func same(a, b api.Rounds) bool {
	return slices.Equal(a.Town.Places, b.Town.Places) && slices.Equal(a.Town.Links, b.Town.Links) &&
		a.From == b.From && a.Days == b.Days && a.Pints == b.Pints &&
		slices.EqualFunc(a.Homes, b.Homes, sameHome) && slices.EqualFunc(a.Carriers, b.Carriers, sameCarrier)
}

// told is all results of a call: numbers in their order (such as a day, a home and a rule), a list, or lists, a toil, and rounds.
type told struct {
	e    api.Errno
	n    [3]int
	l    []int
	all  [][]int
	toil api.Toil
	r    api.Rounds
}

func (a told) equal(b told) bool {
	return a.e == b.e && a.n == b.n && slices.Equal(a.l, b.l) && sameLists(a.all, b.all) && a.toil == b.toil && same(a.r, b.r)
}

// isZero reports whether all that is told beside the error is zero.
func (a told) isZero() bool { return a.equal(told{e: a.e}) }

// given is what the calls are told beside the rounds.
type given struct {
	home, carrier int
	route, days   []int
	plan          [][]int
	put           api.Home
	hire          api.Carrier
}

// call is one of the functions, and what is asked of it.
type call struct {
	name string
	run  func(r api.Rounds) told
}

// calls has each function of the chapter, with these arguments.
func calls(g given) []call {
	return []call{
		{"Check", func(r api.Rounds) told { return told{e: rounds.Check(r)} }},
		{"Route", func(r api.Rounds) told {
			l, u, e := rounds.Route(r, g.carrier, g.route)
			return told{e: e, l: l, toil: u}
		}},
		{"Dry", func(r api.Rounds) told { n, e := rounds.Dry(r, g.home, g.days); return told{e: e, n: [3]int{n}} }},
		{"Needs", func(r api.Rounds) told { l, e := rounds.Needs(r, g.home); return told{e: e, all: l} }},
		{"Plan", func(r api.Rounds) told { l, u, e := rounds.Plan(r); return told{e: e, all: l, toil: u} }},
		{"Fails", func(r api.Rounds) told { n, l, e := rounds.Fails(r); return told{e: e, n: [3]int{n}, l: l} }},
		{"Fewest", func(r api.Rounds) told { n, e := rounds.Fewest(r); return told{e: e, n: [3]int{n}} }},
		{"Without", func(r api.Rounds) told { u, e := rounds.Without(r, g.carrier); return told{e: e, toil: u} }},
		{"Breaks", func(r api.Rounds) told {
			a, b, c, e := rounds.Breaks(r, g.plan)
			return told{e: e, n: [3]int{a, b, c}}
		}},
		{"Judge", func(r api.Rounds) told {
			u, a, b, e := rounds.Judge(r, g.plan)
			return told{e: e, n: [3]int{a, b}, toil: u}
		}},
		{"Served", func(r api.Rounds) told { l, e := rounds.Served(r, g.plan, g.home); return told{e: e, l: l} }},
		{"Left", func(r api.Rounds) told { l, e := rounds.Left(r, g.plan); return told{e: e, l: l} }},
		{"Put", func(r api.Rounds) told { y, e := rounds.Put(r, g.put); return told{e: e, r: y} }},
		{"Drop", func(r api.Rounds) told { y, e := rounds.Drop(r, g.home); return told{e: e, r: y} }},
		{"Hire", func(r api.Rounds) told { y, e := rounds.Hire(r, g.hire); return told{e: e, r: y} }},
		{"Dismiss", func(r api.Rounds) told { y, e := rounds.Dismiss(r, g.carrier); return told{e: e, r: y} }},
	}
}

// expect checks the error of some calls, and that nothing is told beside it.
func expect(t *testing.T, r api.Rounds, g given, e api.Errno, names ...string) {
	t.Helper()
	many := 0
	for _, c := range calls(g) {
		if !slices.Contains(names, c.name) {
			continue
		}
		many++
		if z := c.run(r); z.e != e || e != api.OK && !z.isZero() {
			t.Error(c.name, g, z)
		}
	}
	if many != len(names) {
		t.Error("no such calls:", names)
	}
}
