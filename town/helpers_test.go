package town_test

import (
	"math"
	"slices"
	"testing"

	"aguador/api"
	"aguador/town"
)

const (
	huge = math.MaxInt
	low  = math.MinInt
)

func ints(l ...int) []int { return l }

func span(lo, hi int) api.Span { return api.Span{Lo: lo, Hi: hi} }

func pull(street, fount, pints int) api.Pull {
	return api.Pull{Street: street, Fount: fount, Pints: pints}
}

func pulls(l ...api.Pull) []api.Pull { return l }

// street needs a number of lo to hi.
func street(id, lo, hi, least int, draws ...int) api.Street {
	return api.Street{Id: id, Need: span(lo, hi), Least: least, Draws: draws}
}

func streets(l ...api.Street) []api.Street { return l }

// gives is a fountain that gives a number of each span, week by week, of eight weeks at most: no end may rise.
func gives(id int, l ...api.Span) api.Fount {
	x := api.Fount{Id: id, Spring: api.Spring{Weeks: len(l), Most: api.MaxGive, Fall: api.MaxGive, Song: span(60, 60)}}
	for week, pints := range l {
		x.Spring.Book = append(x.Spring.Book, api.Line{Rain: span(0, 0), Week: week, Gives: pints})
	}
	return x
}

// still is a fountain that gives just so much, for a week.
func still(id, pints int) api.Fount { return gives(id, span(pints, pints)) }

// stills are fountains with the Ids from 1 on that give just so much.
func stills(pints ...int) (l []api.Fount) {
	for i, n := range pints {
		l = append(l, still(i+1, n))
	}
	return l
}

func supply(founts []api.Fount, l ...api.Street) api.Supply {
	return api.Supply{Founts: founts, Streets: l}
}

// chapter is the supply of the chapter's examples, with changes.
func chapter(change ...func(s *api.Supply)) api.Supply {
	one := api.Spring{
		Weeks: 4, Most: 40, Fall: 8, Song: span(60, 70), Winter: span(3, 5),
		Book:     []api.Line{{Rain: span(0, 3), Week: 2, Gives: span(5, 12)}, {Rain: span(4, 9), Week: 2, Gives: span(10, 25)}},
		Readings: []api.Reading{{Number: 1, Week: 0, Bucket: 10, Songs: span(18, 20)}},
	}
	two := api.Spring{
		Weeks: 4, Most: 12, Fall: 2, Song: span(60, 60),
		Readings: []api.Reading{{Number: 1, Week: 0, Bucket: 1, Songs: span(5, 6)}},
	}
	s := supply([]api.Fount{{Id: 1, Spring: one}, {Id: 2, Spring: two}}, street(1, 10, 14, 8, 1), street(2, 12, 20, 5, 1, 2), street(3, 4, 6, 4, 2))
	for _, f := range change {
		f(&s)
	}
	return s
}

// dry has a spring without a truth.
func dry() api.Supply {
	return chapter(func(s *api.Supply) { s.Founts[1].Spring.Readings[0].Songs = span(1, 4) })
}

// full has as many fountains and streets as there can be.
func full() api.Supply {
	return supply(stills(7, 0, 100, 2), street(1, 0, 0, 0), street(2, 5, 100, 5, 1, 2, 3, 4), street(3, 1, 1, 1, 4), street(9, 2, 3, 0, 1, 4), street(9999, 100, 100, 100, 3))
}

// odd is a supply that is not valid.
func odd() api.Supply { return api.Supply{} }

// wanting is a jar of a house that wants a number of lo to hi on each of two days.
func wanting(lo, hi int) api.Jar {
	return api.Jar{Full: 9, Days: 2, Start: span(0, 9), Use: span(lo, hi), Week: span(0, 35)}
}

func jars(l ...api.Jar) []api.Jar { return l }

func sameFount(a, b api.Fount) bool {
	x, y := a.Spring, b.Spring
	return a.Id == b.Id && x.Weeks == y.Weeks && x.Most == y.Most && x.Fall == y.Fall && x.Song == y.Song && x.Winter == y.Winter && slices.Equal(x.Book, y.Book) && slices.Equal(x.Readings, y.Readings)
}

func sameStreet(a, b api.Street) bool {
	return a.Id == b.Id && a.Need == b.Need && a.Least == b.Least && slices.Equal(a.Draws, b.Draws)
}

func same(a, b api.Supply) bool {
	return slices.EqualFunc(a.Founts, b.Founts, sameFount) && slices.EqualFunc(a.Streets, b.Streets, sameStreet)
}

// copied shares no memory with the supply.
func copied(s api.Supply) api.Supply {
	s.Founts, s.Streets = slices.Clone(s.Founts), slices.Clone(s.Streets)
	for i := range s.Founts {
		x := &s.Founts[i].Spring
		x.Book, x.Readings = slices.Clone(x.Book), slices.Clone(x.Readings)
	}
	for i := range s.Streets {
		s.Streets[i].Draws = slices.Clone(s.Streets[i].Draws)
	}
	return s
}

// told is all results of a call: of Enough and Least, n is what is known.
type told struct {
	e     api.Errno
	n     int
	span  api.Span
	l     []int
	pulls []api.Pull
	s     api.Supply
}

func (a told) equal(b told) bool {
	return a.e == b.e && a.n == b.n && a.span == b.span && slices.Equal(a.l, b.l) && slices.Equal(a.pulls, b.pulls) && same(a.s, b.s)
}

// isZero reports whether all that is told beside the error is zero.
func (a told) isZero() bool { return a.equal(told{e: a.e}) }

// given is what the calls are told beside the supply: put is a street that is added, street and fount are Ids.
type given struct {
	week          int
	best          bool
	shares        []int
	fount, street int
	jars          []api.Jar
	day           int
	put           api.Street
}

// call is one of the functions, and what is asked of it.
type call struct {
	name string
	run  func(s api.Supply) told
}

// calls has each function of the chapter, with these arguments.
func calls(g given) []call {
	return append(changes(g), []call{
		{"Check", func(s api.Supply) told { return told{e: town.Check(s)} }},
		{"Weeks", func(s api.Supply) told { n, e := town.Weeks(s); return told{e: e, n: n} }},
		{"Water", func(s api.Supply) told { l, e := town.Water(s, g.week, g.best); return told{e: e, l: l} }},
		{"Enough", func(s api.Supply) told { n, e := town.Enough(s, g.week); return told{e: e, n: int(n)} }},
		{"Perhaps", func(s api.Supply) told { n, e := town.Perhaps(s); return told{e: e, n: n} }},
		{"Surely", func(s api.Supply) told { n, e := town.Surely(s); return told{e: e, n: n} }},
		{"Proof", func(s api.Supply) told { l, e := town.Proof(s, g.week, g.best); return told{e: e, l: l} }},
		{"Most", func(s api.Supply) told { x, e := town.Most(s, g.week); return told{e: e, span: x} }},
		{"Least", func(s api.Supply) told { n, e := town.Least(s, g.week); return told{e: e, n: int(n)} }},
		{"Fair", func(s api.Supply) told { l, e := town.Fair(s, g.week, g.best); return told{e: e, l: l} }},
		{"Pulls", func(s api.Supply) told {
			l, e := town.Pulls(s, g.week, g.best, g.shares)
			return told{e: e, pulls: l}
		}},
		{"Helps", func(s api.Supply) told { l, e := town.Helps(s, g.week); return told{e: e, l: l} }},
		{"More", func(s api.Supply) told { n, e := town.More(s, g.week, g.fount); return told{e: e, n: n} }},
	}...)
}

func changes(g given) []call {
	return []call{
		{"Count", func(s api.Supply) told {
			y, e := town.Count(s, g.street, g.jars, g.day)
			return told{e: e, s: y}
		}},
		{"Put", func(s api.Supply) told { y, e := town.Put(s, g.put); return told{e: e, s: y} }},
		{"Drop", func(s api.Supply) told { y, e := town.Drop(s, g.street); return told{e: e, s: y} }},
	}
}

// expect checks the error of some calls, and that nothing is told beside it.
func expect(t *testing.T, s api.Supply, g given, e api.Errno, names ...string) {
	t.Helper()
	many := 0
	for _, c := range calls(g) {
		if !slices.Contains(names, c.name) {
			continue
		}
		many++
		if z := c.run(s); z.e != e || e != api.OK && !z.isZero() {
			t.Error(c.name, s, g, z)
		}
	}
	if many != len(names) {
		t.Error("no such calls:", names)
	}
}

// expectSupply checks what a call makes of a supply: with an error, none.
func expectSupply(t *testing.T, i any, got, want api.Supply, e, wantE api.Errno) {
	t.Helper()
	if wantE != api.OK {
		want = api.Supply{}
	}
	if !same(got, want) || e != wantE {
		t.Error(i, got, e)
	}
}

// weekly has the names of the calls that are told a week, and nothing else of which an error could be named.
func weekly() []string {
	return []string{"Water", "Enough", "Proof", "Most", "Least", "Fair", "Helps"}
}
