package jar_test

import (
	"math"
	"slices"
	"testing"

	"aguador/api"
	"aguador/jar"
)

const (
	huge = math.MaxInt
	low  = math.MinInt
)

func span(lo, hi int) api.Span { return api.Span{Lo: lo, Hi: hi} }

func ints(l ...int) []int { return l }

func sight(id, day, lo, hi int) api.Sight { return api.Sight{Id: id, Day: day, Pints: span(lo, hi)} }

func bring(day, pints int) api.Bring { return api.Bring{Day: day, Pints: pints} }

// chapter is the jar of the chapter's examples, with more that is brought.
func chapter(more ...api.Bring) api.Jar {
	return api.Jar{
		Full: 12, Days: 7,
		Start: span(6, 8), Use: span(1, 3), Week: span(10, 14),
		Sights: []api.Sight{sight(1, 1, 2, 5)},
		Brings: append([]api.Bring{bring(2, 6)}, more...),
	}
}

// odd is the chapter's jar with a sight that cannot be true.
func odd() api.Jar { return seen(chapter(), sight(1, 1, 2, 5), sight(2, 0, 9, 12)) }

// plain is a jar of five pints, all of them there at first, with two wanted on each of so many days.
func plain(days int, sights ...api.Sight) api.Jar {
	return api.Jar{Full: 5, Days: days, Start: span(5, 5), Use: span(2, 2), Week: span(0, 35), Sights: sights}
}

// seen is the jar with other sights.
func seen(j api.Jar, sights ...api.Sight) api.Jar {
	j.Sights = sights
	return j
}

// got is the jar with other things that are brought.
func got(j api.Jar, brings ...api.Bring) api.Jar {
	j.Brings = brings
	return j
}

// open is the jar of a house that may have left.
func open(j api.Jar) api.Jar {
	j.May = api.KnownOpen
	return j
}

// wanting is the jar of a house that wants so much a day, and a week.
func wanting(j api.Jar, use, week api.Span) api.Jar {
	j.Use, j.Week = use, week
	return j
}

// twos has so many sights that are true, with the Ids 2, 4 and so on, on the first day.
func twos(many int) api.Jar {
	j := chapter()
	j.Sights = nil
	for i := range many {
		j.Sights = append(j.Sights, sight(2*i+2, 0, 0, 12))
	}
	return j
}

// great has as much of everything as there can be.
func great() api.Jar {
	j := api.Jar{Full: 20, Days: 10, Start: span(0, 20), Use: span(0, 5), Week: span(0, 35), May: api.KnownOpen}
	for i := range api.MaxSights {
		j.Sights = append(j.Sights, sight(api.MaxId-11+i, 9, 0, 20))
	}
	for i := range api.MaxBrings {
		j.Brings = append(j.Brings, bring(i*9/11, 20))
	}
	return j
}

func same(a, b api.Jar) bool {
	return a.Full == b.Full && a.Days == b.Days && a.Start == b.Start && a.Use == b.Use && a.Week == b.Week && a.May == b.May &&
		slices.Equal(a.Sights, b.Sights) && slices.Equal(a.Brings, b.Brings)
}

// told is all results of a call: of Can, n is 1 if it is so; of Look, n is the day, and many is how many.
type told struct {
	e       api.Errno
	n, many int
	l       []int
	x       api.Span
	j       api.Jar
}

func (a told) equal(b told) bool {
	return a.e == b.e && a.n == b.n && a.many == b.many && slices.Equal(a.l, b.l) && a.x == b.x && same(a.j, b.j)
}

// isZero reports whether all that is told beside the error is zero.
func (a told) isZero() bool { return a.equal(told{e: a.e}) }

// given is what the calls are told beside the jar.
type given struct {
	day, week, pints int
	days, ids        []int
	sight            api.Sight
	bring            api.Bring
}

// call is one of the functions, and what is asked of it.
type call struct {
	name string
	run  func(j api.Jar) told
}

// calls has each function of the chapter, with these arguments.
func calls(g given) []call {
	return []call{
		{"Check", func(j api.Jar) told { return told{e: jar.Check(j)} }},
		{"Can", func(j api.Jar) told {
			is, e := jar.Can(j)
			if is {
				return told{e: e, n: 1}
			}
			return told{e: e}
		}},
		{"Holds", func(j api.Jar) told { x, e := jar.Holds(j, g.day); return told{e: e, x: x} }},
		{"Wants", func(j api.Jar) told { x, e := jar.Wants(j, g.day); return told{e: e, x: x} }},
		{"Week", func(j api.Jar) told { x, e := jar.Week(j, g.week); return told{e: e, x: x} }},
		{"Dry", func(j api.Jar) told { n, e := jar.Dry(j, g.days, g.pints); return told{e: e, n: n} }},
		{"Must", func(j api.Jar) told { n, e := jar.Must(j); return told{e: e, n: n} }},
		{"Gone", func(j api.Jar) told { l, e := jar.Gone(j); return told{e: e, l: l} }},
		{"Lost", func(j api.Jar) told { x, e := jar.Lost(j); return told{e: e, x: x} }},
		{"Look", func(j api.Jar) told { n, many, e := jar.Look(j); return told{e: e, n: n, many: many} }},
		{"Fewest", func(j api.Jar) told { l, e := jar.Fewest(j, g.pints); return told{e: e, l: l} }},
		{"Idle", func(j api.Jar) told { l, e := jar.Idle(j); return told{e: e, l: l} }},
		{"Wrong", func(j api.Jar) told { l, e := jar.Wrong(j); return told{e: e, l: l} }},
		{"See", func(j api.Jar) told { y, e := jar.See(j, g.sight); return told{e: e, j: y} }},
		{"Bring", func(j api.Jar) told { y, e := jar.Bring(j, g.bring); return told{e: e, j: y} }},
		{"Strike", func(j api.Jar) told { y, e := jar.Strike(j, g.ids); return told{e: e, j: y} }},
	}
}

// expect checks the error of some calls, and that nothing is told beside it.
func expect(t *testing.T, j api.Jar, g given, e api.Errno, names ...string) {
	t.Helper()
	many := 0
	for _, c := range calls(g) {
		if !slices.Contains(names, c.name) {
			continue
		}
		many++
		if z := c.run(j); z.e != e || e != api.OK && !z.isZero() {
			t.Error(c.name, g, z)
		}
	}
	if many != len(names) {
		t.Error("no such calls:", names)
	}
}
