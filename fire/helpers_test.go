package fire_test

import (
	"math"
	"slices"
	"testing"

	"aguador/api"
	"aguador/fire"
)

const (
	huge = math.MaxInt
	low  = math.MinInt
)

func ints(l ...int) []int { return l }

func span(lo, hi int) api.Span { return api.Span{Lo: lo, Hi: hi} }

func link(id, from, to, steps, paces int) api.Link {
	return api.Link{Id: id, From: from, To: to, Steps: steps, Paces: paces}
}

func well(id, place, every int) api.Well { return api.Well{Id: id, Place: place, Every: every} }

func wells(l ...api.Well) []api.Well { return l }

// empty and full are porters by their skins.
func empty(id, at int) api.Porter { return api.Porter{Id: id, At: at} }

func full(id, at int) api.Porter { return api.Porter{Id: id, At: at, Full: true} }

func porters(l ...api.Porter) []api.Porter { return l }

func claim(number, porter, minute int) api.Claim {
	return api.Claim{Number: number, Porter: porter, Minute: minute}
}

func claims(l ...api.Claim) []api.Claim { return l }

func task(porter, well, beat, there int) api.Task {
	return api.Task{Porter: porter, Well: well, Beat: beat, There: there}
}

func tasks(l ...api.Task) []api.Task { return l }

// beats are so many of one well, from the first one on.
func beats(well, first, many int) (l []api.Beat) {
	for i := range many {
		l = append(l, api.Beat{Well: well, Beat: first + i})
	}
	return l
}

func wage(porter, pence int) api.Wage { return api.Wage{Porter: porter, Pence: pence} }

func wages(l ...api.Wage) []api.Wage { return l }

// chapter is the bell of the chapter's examples, with changes.
func chapter(change ...func(b *api.Bell)) api.Bell {
	b := api.Bell{
		Town:    api.Town{Places: ints(1, 2, 3, 4), Links: []api.Link{link(1, 1, 2, 0, 6), link(2, 2, 3, 0, 3), link(3, 3, 4, 0, 12)}},
		Gait:    api.Gait{Pace: span(10, 20)},
		Place:   3,
		Wells:   wells(well(10, 2, 2)),
		Porters: porters(empty(1, 1), empty(2, 2), full(3, 4), empty(4, 1)),
	}
	for _, f := range change {
		f(&b)
	}
	return b
}

// claimed is the bell of the chapter's examples with claims.
func claimed(l ...api.Claim) api.Bell {
	return chapter(func(b *api.Bell) { b.Claims = l })
}

// star has the fire at 1, and from there lanes to 2, 3 and so on that take just so many minutes; with -1 there is none.
func star(minutes []int, wells []api.Well, l ...api.Porter) api.Bell {
	b := api.Bell{Town: api.Town{Places: ints(1)}, Gait: api.Gait{Pace: span(20, 20)}, Place: 1, Wells: wells, Porters: l}
	for i, n := range minutes {
		b.Town.Places = append(b.Town.Places, i+2)
		if n > 0 {
			b.Town.Links = append(b.Town.Links, link(i+1, 1, i+2, 0, 3*n))
		}
	}
	return b
}

// stairs has the places 1 and 2, a minute apart, and 2 is up a stair: up it takes two to three minutes. By 3 there is no stair, but it takes 10 minutes from 1 to 3.
func stairs(fire int, round bool, wells []api.Well, l ...api.Porter) api.Bell {
	b := api.Bell{
		Town: api.Town{Places: ints(1, 2, 3), Links: []api.Link{link(1, 1, 2, 60, 3), link(2, 3, 1, 0, 30)}},
		Gait: api.Gait{Pace: span(20, 20), Step: span(1, 2)}, Place: fire, Wells: wells, Porters: l,
	}
	if round {
		b.Town.Links = append(b.Town.Links, link(3, 3, 2, 0, 3))
	}
	return b
}

// hill has the fire at 4. From 1 it takes 11 minutes to get there, by lanes; but up a stair it is two to three minutes to the well 7, and down from there a minute.
func hill(l ...api.Porter) api.Bell {
	return api.Bell{
		Town: api.Town{Places: ints(1, 2, 3, 4), Links: []api.Link{link(1, 1, 2, 60, 3), link(2, 1, 3, 0, 30), link(3, 3, 4, 0, 3), link(4, 4, 2, 100, 3)}},
		Gait: api.Gait{Pace: span(20, 20), Step: span(1, 2)}, Place: 4, Wells: wells(well(7, 2, 1)), Porters: l,
	}
}

// most has as many of all as there can be.
func most() api.Bell {
	b := api.Bell{Gait: api.Gait{Pace: span(20, 20), Step: span(20, 20)}, Place: 9999}
	for i := range 9 {
		b.Town.Places = append(b.Town.Places, 9991+i)
	}
	for i := range 20 {
		from, to := b.Town.Places[i%9], b.Town.Places[(i+1)%9]
		b.Town.Links = append(b.Town.Links, link(9980+i, from, to, 500, 2000))
	}
	b.Wells = wells(well(1, 9991, 15), well(9998, 9999, 15), well(9999, 9995, 1))
	b.Porters = porters(full(1, 9991), empty(2, 9992), empty(3, 9991), empty(4, 9999), full(9998, 9999), empty(9999, 9995))
	for i := range 8 {
		b.Claims = append(b.Claims, claim(9992+i, 1+i%4, huge-i))
	}
	return b
}

// odd is a bell that is not valid.
func odd() api.Bell { return api.Bell{} }

func same(a, b api.Bell) bool {
	return slices.Equal(a.Town.Places, b.Town.Places) && slices.Equal(a.Town.Links, b.Town.Links) && a.Gait == b.Gait && a.Place == b.Place && slices.Equal(a.Wells, b.Wells) && slices.Equal(a.Porters, b.Porters) && slices.Equal(a.Claims, b.Claims)
}

// copied shares no memory with the bell.
func copied(b api.Bell) api.Bell {
	b.Town.Places, b.Town.Links = slices.Clone(b.Town.Places), slices.Clone(b.Town.Links)
	b.Wells, b.Porters, b.Claims = slices.Clone(b.Wells), slices.Clone(b.Porters), slices.Clone(b.Claims)
	return b
}

// told is all results of a call: n is also what is known, or 1 for what is so.
type told struct {
	e     api.Errno
	n     int
	span  api.Span
	l     []int
	tasks []api.Task
	beats []api.Beat
	wages []api.Wage
	b     api.Bell
}

func (a told) equal(b told) bool {
	return a.e == b.e && a.n == b.n && a.span == b.span && slices.Equal(a.l, b.l) && slices.Equal(a.tasks, b.tasks) && slices.Equal(a.beats, b.beats) && slices.Equal(a.wages, b.wages) && same(a.b, b.b)
}

// isZero reports whether all that is told beside the error is zero.
func (a told) isZero() bool { return a.equal(told{e: a.e}) }

// given is what the calls are told beside the bell: porter and well are Ids, put and join are added.
type given struct {
	porter, well, minute, skins int
	fee, first                  int
	numbers                     []int
	put                         api.Claim
	join                        api.Porter
}

// call is one of the functions, and what is asked of it.
type call struct {
	name string
	run  func(b api.Bell) told
}

func number(is bool) int {
	if is {
		return 1
	}
	return 0
}

// calls has each function of the chapter, with these arguments.
func calls(g given) []call {
	return append(changes(g), []call{
		{"Check", func(b api.Bell) told { return told{e: fire.Check(b)} }},
		{"Reach", func(b api.Bell) told { x, e := fire.Reach(b, g.porter); return told{e: e, span: x} }},
		{"Can", func(b api.Bell) told { k, e := fire.Can(b, g.porter, g.minute); return told{e: e, n: int(k)} }},
		{"Send", func(b api.Bell) told { l, e := fire.Send(b); return told{e: e, tasks: l} }},
		{"By", func(b api.Bell) told { n, e := fire.By(b, g.minute); return told{e: e, n: n} }},
		{"When", func(b api.Bell) told { n, e := fire.When(b, g.skins); return told{e: e, n: n} }},
		{"Helps", func(b api.Bell) told {
			is, e := fire.Helps(b, g.porter, g.minute)
			return told{e: e, n: number(is)}
		}},
		{"Crew", func(b api.Bell) told { l, e := fire.Crew(b, g.minute); return told{e: e, l: l} }},
		{"Cover", func(b api.Bell) told {
			l, m, e := fire.Cover(b, g.minute)
			return told{e: e, l: l, beats: m}
		}},
		{"True", func(b api.Bell) told { is, e := fire.True(b); return told{e: e, n: number(is)} }},
		{"Wrong", func(b api.Bell) told { l, e := fire.Wrong(b); return told{e: e, l: l} }},
		{"Wages", func(b api.Bell) told { l, e := fire.Wages(b, g.fee, g.first); return told{e: e, wages: l} }},
	}...)
}

func changes(g given) []call {
	return []call{
		{"Put", func(b api.Bell) told { y, e := fire.Put(b, g.put); return told{e: e, b: y} }},
		{"Strike", func(b api.Bell) told { y, e := fire.Strike(b, g.numbers); return told{e: e, b: y} }},
		{"Join", func(b api.Bell) told { y, e := fire.Join(b, g.join); return told{e: e, b: y} }},
		{"Leave", func(b api.Bell) told { y, e := fire.Leave(b, g.porter); return told{e: e, b: y} }},
		{"Stop", func(b api.Bell) told { y, e := fire.Stop(b, g.well); return told{e: e, b: y} }},
	}
}

// expect checks the error of some calls, and that nothing is told beside it.
func expect(t *testing.T, b api.Bell, g given, e api.Errno, names ...string) {
	t.Helper()
	many := 0
	for _, c := range calls(g) {
		if !slices.Contains(names, c.name) {
			continue
		}
		many++
		if z := c.run(b); z.e != e || e != api.OK && !z.isZero() {
			t.Error(c.name, b, g, z)
		}
	}
	if many != len(names) {
		t.Error("no such calls:", names)
	}
}

// expectBell checks what a call makes of a bell: with an error, none.
func expectBell(t *testing.T, i any, got, want api.Bell, e, wantE api.Errno) {
	t.Helper()
	if wantE != api.OK {
		want = api.Bell{}
	}
	if !same(got, want) || e != wantE {
		t.Error(i, got, e)
	}
}

// expectNumber checks a number that is told, or an error if there is none (-1).
func expectNumber(t *testing.T, i any, got int, e api.Errno, want int, none api.Errno) {
	t.Helper()
	wantE := api.OK
	if want < 0 {
		want, wantE = 0, none
	}
	if got != want || e != wantE {
		t.Error(i, got, e)
	}
}

// with is the bell with these claims.
func with(b api.Bell, l ...api.Claim) api.Bell {
	b.Claims = l
	return b
}
