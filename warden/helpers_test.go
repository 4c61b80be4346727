package warden_test

import (
	"fmt"
	"math"
	"reflect"
	"slices"
	"strings"
	"testing"

	"aguador/api"
	"aguador/warden"
)

const (
	huge = math.MaxInt
	low  = math.MinInt
)

func ints(l ...int) []int { return l }

func span(lo, hi int) api.Span { return api.Span{Lo: lo, Hi: hi} }

func deed(verb int, args ...int) api.Deed { return api.Deed{Verb: verb, Args: args} }

func deeds(l ...api.Deed) []api.Deed { return l }

func guard(vessel, fountain int) api.Guard { return api.Guard{Vessel: vessel, Fountain: fountain} }

func guards(l ...api.Guard) []api.Guard { return l }

func order(number, kind, a, b int) api.Order {
	return api.Order{Number: number, Kind: kind, A: a, B: b}
}

func orders(l ...api.Order) []api.Order { return l }

// chapter is the post of the chapter's examples, with changes.
func chapter(change ...func(p *api.Post)) api.Post {
	town := func() api.Town {
		return api.Town{Places: ints(1, 2, 3, 4), Links: []api.Link{{Id: 1, From: 1, To: 2, Paces: 6}, {Id: 2, From: 2, To: 3, Paces: 3}, {Id: 3, From: 3, To: 4, Paces: 12}}}
	}
	p := api.Post{
		Town: town(),
		Dawn: api.Dawn{Fill: span(2, 3), Ranks: ints(1, 2, 2), Comers: []api.Comer{{Id: 1, Guild: 2, Come: 0, Skins: 1}, {Id: 2, Guild: 1, Come: 3, Skins: 1}, {Id: 3, Guild: 3, Come: 0, Skins: 1}, {Id: 4, Guild: 2, Come: 1, Skins: 2}}},
		Mix: api.Mix{
			Fountains: 2, Vessels: []api.Vessel{{Id: 1, Size: 6}, {Id: 2, Size: 5}, {Id: 3, Size: 4}},
			Acts: []api.Act{{Kind: 1, From: 1, To: 1, Drops: 4}, {Kind: 1, From: 2, To: 2, Drops: 3}, {Kind: 2, From: 1, To: 2, Drops: 2}, {Kind: 2, From: 2, To: 3, Drops: 3}, {Kind: 3, From: 3, Drops: 1}},
		},
		Rounds: api.Rounds{Town: town(), Days: 1, Pints: 1},
		Tally:  api.Tally{Id: 1, House: 1, Stock: ints(1, 1, 2, 4), Foil: ints(1, 2, 3, 4)},
		Floors: api.Floors{Ids: ints(1, 2, 3, 4), Bills: []api.Bill{
			{Number: 1, Payer: 1, Pence: 100, Stakes: []api.Stake{{Floor: 1, Parts: 1}, {Floor: 2, Parts: 1}, {Floor: 3, Parts: 1}}},
			{Number: 2, Payer: 2, Pence: 60, Stakes: []api.Stake{{Floor: 3, Parts: 1}, {Floor: 4, Parts: 2}}},
		}},
		Supply: api.Supply{Founts: []api.Fount{{Id: 1, Spring: api.Spring{Weeks: 1, Most: 9, Song: span(1, 1)}}}},
		Bell: api.Bell{
			Town: town(), Gait: api.Gait{Pace: span(10, 20)}, Place: 3,
			Wells:   []api.Well{{Id: 10, Place: 2, Every: 2}},
			Porters: []api.Porter{{Id: 1, At: 1}, {Id: 2, At: 2}, {Id: 3, At: 4, Full: true}, {Id: 4, At: 1}},
		},
		Orders: orders(order(3, api.OrderFire, 3, 5)),
	}
	for _, f := range change {
		f(&p)
	}
	return p
}

// rich is the post of the chapter with more of everything: two of each thing at least, no number twice in a thing where this can be.
func rich(change ...func(p *api.Post)) api.Post {
	p := chapter()
	p.Dawn.Open = 1
	p.Dawn.Notes = []api.Begun{{Number: 4, Comer: 3, At: span(2, 9)}, {Number: 7, Comer: 2, At: span(0, huge)}}
	p.Mix.Tastes = []api.Taste{{Number: 5, Vessel: 2, After: 4, Fountain: 1, Drops: span(0, huge)}, {Number: 6, Vessel: 3, After: 5, Fountain: 2, Drops: span(1, 2)}}
	jar := func(sights ...api.Sight) api.Jar {
		return api.Jar{Full: 12, Days: 7, Start: span(6, 8), Use: span(1, 3), Week: span(10, 14), Sights: sights, Brings: []api.Bring{{Day: 2, Pints: 6}, {Day: 4, Pints: 5}}}
	}
	p.Rounds.From, p.Rounds.Days, p.Rounds.Pints = 3, 4, 2
	p.Rounds.Homes = []api.Home{{Id: 10, Place: 4, Pays: true, Jar: jar(api.Sight{Id: 1, Day: 1, Pints: span(2, 5)}, api.Sight{Id: 8, Day: 0, Pints: span(3, 7)})}, {Id: 20, Place: 2, Jar: jar()}}
	p.Rounds.Homes[1].Jar.May = api.KnownOpen
	p.Rounds.Carriers = []api.Carrier{{Id: 5, Base: 3, Donkey: true, Skins: 1, Homes: ints(10, 20)}, {Id: 6, Base: 1, Skins: 4}}
	p.Tally.Id, p.Tally.House = 8, 9
	p.Rates = api.Rates{Skin: 6, Half: 3, Barrel: 40, Paid: 10}
	p.Floors.Quarrels = []api.Quarrel{{A: 1, B: 3}, {A: 2, B: 4}}
	p.Floors.Paid = []api.Payment{{From: 3, To: 1, Pence: 2}, {From: 1, To: 3, Pence: 1}}
	p.Supply.Founts = []api.Fount{
		{Id: 1, Spring: api.Spring{Weeks: 4, Most: 40, Fall: 8, Song: span(60, 70), Winter: span(3, 5), Book: []api.Line{{Rain: span(0, 3), Week: 2, Gives: span(5, 12)}, {Rain: span(4, 9), Week: 2, Gives: span(10, 25)}}, Readings: []api.Reading{{Number: 1, Week: 0, Bucket: 10, Songs: span(18, 20)}, {Number: 3, Week: 1, Bucket: 9, Songs: span(0, 99)}}}},
		{Id: 2, Spring: api.Spring{Weeks: 5, Most: 12, Fall: 2, Song: span(59, 61), Readings: []api.Reading{{Number: 2, Week: 0, Bucket: 1, Songs: span(5, 6)}}}},
	}
	p.Supply.Streets = []api.Street{{Id: 7, Need: span(3, 5), Least: 2, Draws: ints(1, 2)}, {Id: 11, Need: span(0, 4)}}
	p.Bell.Gait.Step = span(0, 3)
	p.Bell.Wells = append(p.Bell.Wells, api.Well{Id: 12, Place: 3, Every: 15})
	p.Bell.Claims = []api.Claim{{Number: 1, Porter: 3, Minute: 4}, {Number: 2, Porter: 1, Minute: huge}}
	p.Guards = guards(guard(1, 1))
	p.Orders = orders(order(2, api.OrderFalse, 1, 17), order(3, api.OrderFire, 4, 5), order(9999, api.OrderOwes, 4, 30))
	for _, f := range change {
		f(&p)
	}
	return p
}

// richFile is the file of the rich post.
const richFile = "town 4 1 2 3 4 3 1 1 2 0 6 2 2 3 0 3 3 3 4 0 12\n" +
	"dawn 1 2 3 3 1 2 2 4 1 2 0 1 2 1 3 1 3 3 0 1 4 2 1 2 2 4 3 2 9 7 2 0 9223372036854775807\n" +
	"mix 2 3 1 6 2 5 3 4 5 1 1 1 4 1 2 2 3 2 1 2 2 2 2 3 3 3 3 0 1 2 5 2 4 1 0 9223372036854775807 6 3 5 2 1 2\n" +
	"rounds 3 4 2 2 10 4 1 12 7 6 8 1 3 10 14 0 2 1 1 2 5 8 0 3 7 2 2 6 4 5 20 2 0 12 7 6 8 1 3 10 14 1 0 2 2 6 4 5 2 5 3 1 1 2 10 20 6 1 0 4 0\n" +
	"tally 8 9 4 1 1 2 4 4 1 2 3 4\n" +
	"rates 6 3 40 10\n" +
	"floors 4 1 2 3 4 2 1 3 2 4 2 1 1 100 3 1 1 2 1 3 1 2 2 60 2 3 1 4 2 2 3 1 2 1 3 1\n" +
	"supply 2 1 4 40 8 60 70 3 5 2 0 3 2 5 12 4 9 2 10 25 2 1 0 10 18 20 3 1 9 0 99 2 5 12 2 59 61 0 0 0 1 2 0 1 5 6 2 7 3 5 2 2 1 2 11 0 4 0 0\n" +
	"bell 10 20 0 3 3 2 10 2 2 12 3 15 4 1 1 0 2 2 0 3 4 1 4 1 0 2 1 3 4 2 1 9223372036854775807\n" +
	"guards 1 1 1\n" +
	"orders 3 2 5 1 17 3 8 4 5 9999 6 4 30\n"

// changed is the file of the rich post with something in the place of something else.
func changed(t *testing.T, old, new string) string {
	t.Helper()
	if strings.Count(richFile, old) != 1 {
		t.Fatal("not there once:", old)
	}
	return strings.Replace(richFile, old, new, 1)
}

// same reports whether posts are the same; nil lists are shown as empty ones are.
func same(a, b api.Post) bool { return fmt.Sprint(a) == fmt.Sprint(b) }

// renew gives lists memory of their own, with so much room behind each end, in which the same things stand again.
func renew(v reflect.Value, room int) {
	switch v.Kind() {
	case reflect.Struct:
		for i := range v.NumField() {
			renew(v.Field(i), room)
		}
	case reflect.Slice:
		many := v.Len()
		l := reflect.MakeSlice(v.Type(), many+room, many+room)
		for i := range many + room {
			if many > 0 {
				l.Index(i).Set(v.Index(i % many))
				renew(l.Index(i), room)
			}
		}
		v.Set(l.Slice(0, many))
	}
}

// copied shares no memory with the post.
func copied(p api.Post) api.Post {
	renew(reflect.ValueOf(&p).Elem(), 0)
	return p
}

// heard is the deeds of lines, by the oracle.
func heard(t *testing.T, lines ...string) (l []api.Deed) {
	t.Helper()
	for _, s := range lines {
		d, is := deedOf(s)
		if !is {
			t.Fatal("no line:", s)
		}
		l = append(l, d)
	}
	return l
}

// told is all results of a call.
type told struct {
	e       api.Errno
	is      bool
	n       int
	l       []int
	s, file string
	answers []string
	d       api.Deed
	p       api.Post
}

// shown tells all of it; nil lists are shown as empty ones are.
func (a told) shown() string { return fmt.Sprintf("%v %q %q %q", a, a.s, a.file, a.answers) }

func (a told) equal(b told) bool { return a.shown() == b.shown() }

// isZero reports whether all that is told beside the error is zero.
func (a told) isZero() bool { return a.equal(told{e: a.e}) }

// given is what the calls are told beside the post.
type given struct {
	x api.Order
	d api.Deed
	l []api.Deed
	s string // a line
	// The file of a summer, and its lines.
	file, lines string
}

// call is one of the functions, and what is asked of it.
type call struct {
	name string
	run  func(p api.Post) told
}

// calls has each function of the chapter that is told a post, with these arguments.
func calls(g given) []call {
	return []call{
		{"Check", func(p api.Post) told { return told{e: warden.Check(p)} }},
		{"Holds", func(p api.Post) told { is, n, e := warden.Holds(p, g.x); return told{e: e, is: is, n: n} }},
		{"Warns", func(p api.Post) told { l, e := warden.Warns(p); return told{e: e, l: l} }},
		{"Why", func(p api.Post) told { why, e := warden.Why(p, g.d); return told{e: e, n: int(why)} }},
		{"Do", func(p api.Post) told { q, s, e := warden.Do(p, g.d); return told{e: e, p: q, s: s} }},
		{"Run", func(p api.Post) told { q, l, e := warden.Run(p, g.l); return told{e: e, p: q, answers: l} }},
		{"First", func(p api.Post) told { n, e := warden.First(p, g.l); return told{e: e, n: n} }},
		{"Write", func(p api.Post) told { s, e := warden.Write(p); return told{e: e, s: s} }},
	}
}

// others has the functions that are told none.
func others(g given) []call {
	return []call{
		{"Hear", func(api.Post) told { d, e := warden.Hear(g.s); return told{e: e, d: d} }},
		{"Speak", func(api.Post) told { s, e := warden.Speak(g.d); return told{e: e, s: s} }},
		{"Touch", func(api.Post) told { l, e := warden.Touch(g.d); return told{e: e, l: l} }},
		{"Read", func(api.Post) told { p, e := warden.Read(g.file); return told{e: e, p: p} }},
		{"Carry", func(api.Post) told {
			s, after, e := warden.Carry(g.file + g.lines)
			return told{e: e, s: s, file: after}
		}},
	}
}

// expect checks the error of some calls, and that nothing is told beside it.
func expect(t *testing.T, p api.Post, g given, e api.Errno, names ...string) {
	t.Helper()
	many := 0
	for _, c := range append(calls(g), others(g)...) {
		if !slices.Contains(names, c.name) {
			continue
		}
		many++
		if z := c.run(p); z.e != e || e != api.OK && !z.isZero() {
			t.Error(c.name, g, z)
		}
	}
	if many != len(names) {
		t.Error("no such calls:", names)
	}
}

// checkBad checks that each call says that a post is not valid, whatever else is wrong.
func checkBad(t *testing.T, i any, p api.Post) {
	t.Helper()
	for _, g := range []given{{}, {x: order(1, 5, 0, 0), d: deed(18, 10), l: deeds(deed(18, 10))}, {x: order(-1, -1, -1, -1), d: deed(-1), l: make([]api.Deed, 41)}} {
		for _, c := range calls(g) {
			if z := c.run(p); z.e != api.ErrPost || !z.isZero() {
				t.Error(i, c.name, z)
			}
		}
	}
}
