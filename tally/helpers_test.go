package tally_test

import (
	"math"
	"slices"
	"testing"

	"aguador/api"
	"aguador/tally"
)

const (
	huge = math.MaxInt
	low  = math.MinInt
)

func span(lo, hi int) api.Span { return api.Span{Lo: lo, Hi: hi} }

func ints(l ...int) []int { return l }

// row is a notch so many times.
func row(many, kind int) []int { return slices.Repeat(ints(kind), many) }

func cut(stock, foil []int) api.Tally {
	return api.Tally{Id: 1, House: 5, Stock: stock, Foil: foil}
}

// of is the tally of another house.
func of(house int, x api.Tally) api.Tally {
	x.House = house
	return x
}

func tallies(l ...api.Tally) []api.Tally { return l }

// chapter is the tally of the chapter's examples.
func chapter() api.Tally { return cut(ints(1, 1, 2, 4), ints(1, 2, 3, 4)) }

func rates() api.Rates { return api.Rates{Skin: 6, Half: 3, Barrel: 40, Paid: 10} }

// odd is a tally that is not valid.
func odd() api.Tally { return cut(ints(1), ints(5)) }

func turn(at, notch int) api.Edit { return api.Edit{Kind: api.EditTurn, At: at, Notch: notch} }

func add(at, notch int) api.Edit { return api.Edit{Kind: api.EditAdd, At: at, Notch: notch} }

func off(at int) api.Edit { return api.Edit{Kind: api.EditCut, At: at} }

func same(a, b api.Tally) bool {
	return a.Id == b.Id && a.House == b.House && slices.Equal(a.Stock, b.Stock) && slices.Equal(a.Foil, b.Foil)
}

func sameLists(a, b [][]int) bool { return slices.EqualFunc(a, b, slices.Equal[[]int]) }

// told is all results of a call: of Is, n is 1 if it is so; of Match, n is how many are false.
type told struct {
	e     api.Errno
	n     int
	l     []int
	lists [][]int
	edits []api.Edit
	x     api.Span
	all   []api.Tally
}

func (a told) equal(b told) bool {
	return a.e == b.e && a.n == b.n && a.x == b.x && slices.Equal(a.l, b.l) && sameLists(a.lists, b.lists) &&
		slices.Equal(a.edits, b.edits) && slices.EqualFunc(a.all, b.all, same)
}

// isZero reports whether all that is told beside the error is zero.
func (a told) isZero() bool {
	a.all = slices.DeleteFunc(slices.Clone(a.all), func(x api.Tally) bool { return same(x, api.Tally{}) })
	return a.equal(told{e: a.e})
}

// given is what the calls are told beside the tallies.
type given struct {
	list        []int
	kind, house int
	at, foil    int
	rates       api.Rates
}

// call is one of the functions, and what is asked of it. One that is about a single tally gets the first one, Join the first two.
type call struct {
	name string
	run  func(l []api.Tally) told
}

// calls has each function of the chapter, with these arguments.
func calls(g given) []call {
	return append(singleCalls(g), []call{
		{"Join", func(l []api.Tally) told {
			x, e := tally.Join(l[0], l[1])
			return told{e: e, all: tallies(x)}
		}},
		{"Owes", func(l []api.Tally) told { x, e := tally.Owes(l, g.house, g.rates); return told{e: e, x: x} }},
		{"Match", func(l []api.Tally) told { m, n, e := tally.Match(l); return told{e: e, l: m, n: n} }},
		{"Sure", func(l []api.Tally) told { m, e := tally.Sure(l); return told{e: e, l: m} }},
		{"Sort", func(l []api.Tally) told { all, e := tally.Sort(l); return told{e: e, all: all} }},
	}...)
}

func singleCalls(g given) []call {
	return []call{
		{"Check", func(l []api.Tally) told { return told{e: tally.Check(l[0])} }},
		{"False", func(l []api.Tally) told { n, e := tally.False(l[0]); return told{e: e, n: n} }},
		{"Edits", func(l []api.Tally) told { z, e := tally.Edits(l[0]); return told{e: e, edits: z} }},
		{"Is", func(l []api.Tally) told {
			is, e := tally.Is(l[0], g.list)
			if is {
				return told{e: e, n: 1}
			}
			return told{e: e}
		}},
		{"First", func(l []api.Tally) told { z, e := tally.First(l[0]); return told{e: e, l: z} }},
		{"Lists", func(l []api.Tally) told { z, e := tally.Lists(l[0]); return told{e: e, lists: z} }},
		{"Kinds", func(l []api.Tally) told { x, e := tally.Kinds(l[0], g.kind); return told{e: e, x: x} }},
		{"Owed", func(l []api.Tally) told { x, e := tally.Owed(l[0], g.rates); return told{e: e, x: x} }},
		{"Notch", func(l []api.Tally) told {
			x, e := tally.Notch(l[0], g.kind)
			return told{e: e, all: tallies(x)}
		}},
		{"Where", func(l []api.Tally) told { n, e := tally.Where(l[0], g.at); return told{e: e, n: n} }},
		{"Split", func(l []api.Tally) told {
			a, b, e := tally.Split(l[0], g.at, g.foil)
			return told{e: e, all: tallies(a, b)}
		}},
	}
}

// listCalls has the names of the calls that are about a list of tallies.
func listCalls() []string { return []string{"Owes", "Match", "Sure", "Sort"} }

// expect checks the error of some calls, and that nothing is told beside it.
func expect(t *testing.T, l []api.Tally, g given, e api.Errno, names ...string) {
	t.Helper()
	many := 0
	for _, c := range calls(g) {
		if !slices.Contains(names, c.name) {
			continue
		}
		many++
		if z := c.run(l); z.e != e || e != api.OK && !z.isZero() {
			t.Error(c.name, l, g, z)
		}
	}
	if many != len(names) {
		t.Error("no such calls:", names)
	}
}
