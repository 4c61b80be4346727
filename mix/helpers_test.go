package mix_test

import (
	"math"
	"slices"
	"testing"

	"aguador/api"
	"aguador/mix"
)

const (
	huge = math.MaxInt
	low  = math.MinInt
)

func span(lo, hi int) api.Span { return api.Span{Lo: lo, Hi: hi} }

func ints(l ...int) []int { return l }

func fill(fountain, to, n int) api.Act {
	return api.Act{Kind: api.ActFill, From: fountain, To: to, Drops: n}
}

func pour(from, to, n int) api.Act {
	return api.Act{Kind: api.ActPour, From: from, To: to, Drops: n}
}

func lose(from, n int) api.Act { return api.Act{Kind: api.ActLose, From: from, Drops: n} }

func rinse(from int) api.Act { return api.Act{Kind: api.ActRinse, From: from} }

func taste(number, vessel, after, fountain, lo, hi int) api.Taste {
	return api.Taste{Number: number, Vessel: vessel, After: after, Fountain: fountain, Drops: span(lo, hi)}
}

// chapter is the mixed water of the chapter's examples.
func chapter(tastes ...api.Taste) api.Mix {
	return api.Mix{
		Fountains: 2,
		Vessels:   []api.Vessel{{Id: 1, Size: 6}, {Id: 2, Size: 5}, {Id: 3, Size: 4}},
		Acts:      []api.Act{fill(1, 1, 4), fill(2, 2, 3), pour(1, 2, 2), pour(2, 3, 3), lose(3, 1)},
		Tastes:    tastes,
	}
}

// jars are vessels 1 to 4 with room for as many drops as can be, at so many fountains.
func jars(fountains int, acts ...api.Act) api.Mix {
	m := api.Mix{Fountains: fountains, Acts: acts}
	for id := 1; id <= 4; id++ {
		m.Vessels = append(m.Vessels, api.Vessel{Id: id, Size: api.MaxDrops})
	}
	return m
}

// tasted is the mixed water with tastes.
func tasted(m api.Mix, tastes ...api.Taste) api.Mix {
	m.Tastes = tastes
	return m
}

// rinses is so many acts that leave all as it is.
func rinses(many int) []api.Act { return slices.Repeat([]api.Act{rinse(1)}, many) }

// twos has so many tastes that are true, with the Numbers 2, 4 and so on.
func twos(many int) api.Mix {
	m := chapter()
	for i := range many {
		m.Tastes = append(m.Tastes, taste(2*i+2, 1, 1, 1, 0, i+4))
	}
	return m
}

// great has as much of everything as there can be.
func great() api.Mix {
	m := api.Mix{Fountains: 4}
	for id := api.MaxId - 3; id <= api.MaxId; id++ {
		m.Vessels = append(m.Vessels, api.Vessel{Id: id, Size: 12})
	}
	m.Acts = []api.Act{fill(4, 9996, 12), pour(9996, 9999, 12), fill(3, 9998, 6), fill(4, 9998, 6), pour(9998, 9997, 6), pour(9997, 9996, 6), fill(1, 9997, 12), rinse(9999), lose(9998, 6), pour(9997, 9999, 12), rinse(9997), pour(9996, 9997, 6)}
	for i := range api.MaxTastes {
		m.Tastes = append(m.Tastes, taste(api.MaxId-7+i, 9999, 12, 4, 0, huge))
	}
	return m
}

func same(a, b api.Mix) bool {
	return a.Fountains == b.Fountains && slices.Equal(a.Vessels, b.Vessels) && slices.Equal(a.Acts, b.Acts) && slices.Equal(a.Tastes, b.Tastes)
}

// told is all results of a call: of Met and those that tell what is known, n is what they tell.
type told struct {
	e api.Errno
	n int
	l []int
	x api.Span
	m api.Mix
}

func (a told) equal(b told) bool {
	return a.e == b.e && a.n == b.n && slices.Equal(a.l, b.l) && a.x == b.x && same(a.m, b.m)
}

// isZero reports whether all that is told beside the error is zero.
func (a told) isZero() bool { return a.equal(told{e: a.e}) }

// given is what the calls are told beside the mixed water.
type given struct {
	vessel, after, fountain, other int
	moved, to, drops               int
	numbers                        []int
	act                            api.Act
	taste                          api.Taste
}

// call is one of the functions, and what is asked of it.
type call struct {
	name string
	run  func(m api.Mix) told
}

// calls has each function of the chapter, with these arguments.
func calls(g given) []call {
	return append([]call{
		{"Check", func(m api.Mix) told { return told{e: mix.Check(m)} }},
		{"Gone", func(m api.Mix) told { x, e := mix.Gone(m, g.fountain); return told{e: e, x: x} }},
		{"Moved", func(m api.Mix) told { x, e := mix.Moved(m, g.moved, g.fountain); return told{e: e, x: x} }},
		{"Safe", func(m api.Mix) told {
			k, e := mix.Safe(m, g.vessel, g.to, g.drops, g.fountain)
			return told{e: e, n: int(k)}
		}},
		{"Wrong", func(m api.Mix) told { l, e := mix.Wrong(m); return told{e: e, l: l} }},
		{"Put", func(m api.Mix) told { y, e := mix.Put(m, g.taste); return told{e: e, m: y} }},
		{"Strike", func(m api.Mix) told { y, e := mix.Strike(m, g.numbers); return told{e: e, m: y} }},
		{"Do", func(m api.Mix) told { y, e := mix.Do(m, g.act); return told{e: e, m: y} }},
		{"Undo", func(m api.Mix) told { y, e := mix.Undo(m); return told{e: e, m: y} }},
	}, callsOfPlaces(g)...)
}

// callsOfPlaces has the functions with a vessel and a time.
func callsOfPlaces(g given) []call {
	return []call{
		{"Holds", func(m api.Mix) told { n, e := mix.Holds(m, g.vessel, g.after); return told{e: e, n: n} }},
		{"Of", func(m api.Mix) told { x, e := mix.Of(m, g.vessel, g.after, g.fountain); return told{e: e, x: x} }},
		{"Known", func(m api.Mix) told {
			k, e := mix.Known(m, g.vessel, g.after, g.fountain)
			return told{e: e, n: int(k)}
		}},
		{"Pure", func(m api.Mix) told {
			k, e := mix.Pure(m, g.vessel, g.after, g.fountain)
			return told{e: e, n: int(k)}
		}},
		{"Met", func(m api.Mix) told {
			ok, e := mix.Met(m, g.vessel, g.after, g.fountain, g.other)
			if ok {
				return told{e: e, n: 1}
			}
			return told{e: e}
		}},
		{"Path", func(m api.Mix) told {
			l, e := mix.Path(m, g.vessel, g.after, g.fountain)
			return told{e: e, l: l}
		}},
		{"Watch", func(m api.Mix) told {
			l, e := mix.Watch(m, g.vessel, g.after, g.fountain)
			return told{e: e, l: l}
		}},
	}
}

// expect checks the error of some calls, and that nothing is told beside it.
func expect(t *testing.T, m api.Mix, g given, e api.Errno, names ...string) {
	t.Helper()
	many := 0
	for _, c := range calls(g) {
		if !slices.Contains(names, c.name) {
			continue
		}
		many++
		if z := c.run(m); z.e != e || e != api.OK && !z.isZero() {
			t.Error(c.name, g, z)
		}
	}
	if many != len(names) {
		t.Error("no such calls:", names)
	}
}
