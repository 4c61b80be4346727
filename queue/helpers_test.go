package queue_test

import (
	"slices"

	"aguador/api"
	"aguador/queue"
)

func span(lo, hi int) api.Span { return api.Span{Lo: lo, Hi: hi} }

func ints(l ...int) []int { return l }

func comer(id, guild, come, skins int) api.Comer {
	return api.Comer{Id: id, Guild: guild, Come: come, Skins: skins}
}

func note(number, comer, lo, hi int) api.Begun {
	return api.Begun{Number: number, Comer: comer, At: span(lo, hi)}
}

// chapter is the dawn of the chapter's examples, with notes.
func chapter(notes ...api.Begun) api.Dawn {
	return api.Dawn{
		Fill: span(2, 3), Ranks: ints(1, 2, 2),
		Comers: []api.Comer{comer(1, 2, 0, 1), comer(2, 1, 3, 1), comer(3, 3, 0, 1), comer(4, 2, 1, 2)},
		Notes:  notes,
	}
}

// nobody is a dawn to which nobody comes.
func nobody() api.Dawn { return api.Dawn{Open: 7, Fill: span(1, 9)} }

// torn is the chapter's dawn with two notes of which one must be false.
func torn() api.Dawn { return chapter(note(1, 3, 2, 2), note(2, 2, 3, 3)) }

// stair has six comers, each of a rank before the one who came before it, so that many orders can come about.
func stair() api.Dawn {
	d := api.Dawn{Fill: span(1, 4), Ranks: ints(6, 5, 4, 3, 2, 1)}
	for i := range 6 {
		d.Comers = append(d.Comers, comer(10*i+10, i+1, 2*i, 1))
	}
	return d
}

func same(a, b api.Dawn) bool {
	return a.Open == b.Open && a.Fill == b.Fill && slices.Equal(a.Ranks, b.Ranks) &&
		slices.Equal(a.Comers, b.Comers) && slices.Equal(a.Notes, b.Notes)
}

// told is all results of a call.
type told struct {
	e     api.Errno
	n     []int
	x     api.Span
	turns []api.Turn
	lists [][]int
	dawn  api.Dawn
}

func (a told) equal(b told) bool {
	return a.e == b.e && a.x == b.x && slices.Equal(a.n, b.n) && slices.Equal(a.turns, b.turns) &&
		slices.EqualFunc(a.lists, b.lists, slices.Equal[[]int]) && same(a.dawn, b.dawn)
}

// isZero reports whether all that is told beside the error is zero.
func (a told) isZero() bool {
	for _, n := range a.n {
		if n != 0 {
			return false
		}
	}
	return a.x == api.Span{} && len(a.turns)+len(a.lists) == 0 && same(a.dawn, api.Dawn{})
}

// given is what the calls are told beside the dawn.
type given struct {
	one, other, minute      int
	minutes, order, numbers []int
	note                    api.Begun
	comer                   api.Comer
}

// call is one of the functions, and what is asked of it.
type call struct {
	name string
	run  func(d api.Dawn) told
}

// calls has each function of the chapter, with these arguments.
func calls(g given) []call {
	return []call{
		{"Check", func(d api.Dawn) told { return told{e: queue.Check(d)} }},
		{"Serve", func(d api.Dawn) told { l, e := queue.Serve(d, g.minutes); return told{e: e, turns: l} }},
		{"Orders", func(d api.Dawn) told { l, e := queue.Orders(d); return told{e: e, lists: l} }},
		{"Begins", func(d api.Dawn) told { x, e := queue.Begins(d, g.one); return told{e: e, x: x} }},
		{"Ends", func(d api.Dawn) told { x, e := queue.Ends(d, g.one); return told{e: e, x: x} }},
		{"Place", func(d api.Dawn) told { x, e := queue.Place(d, g.one); return told{e: e, x: x} }},
		{"Before", func(d api.Dawn) told { k, e := queue.Before(d, g.one, g.other); return told{e: e, n: ints(int(k))} }},
		{"Sure", func(d api.Dawn) told { k, e := queue.Sure(d, g.one, g.minute); return told{e: e, n: ints(int(k))} }},
		{"Done", func(d api.Dawn) told { x, e := queue.Done(d, g.minute); return told{e: e, x: x} }},
		{"Closes", func(d api.Dawn) told { x, e := queue.Closes(d); return told{e: e, x: x} }},
		{"Waits", func(d api.Dawn) told { x, e := queue.Waits(d); return told{e: e, x: x} }},
		{"Last", func(d api.Dawn) told { n, e := queue.Last(d, g.one, g.minute); return told{e: e, n: ints(n)} }},
		{"Breaks", func(d api.Dawn) told { n, e := queue.Breaks(d, g.order); return told{e: e, n: ints(n)} }},
		{"Ask", func(d api.Dawn) told { a, b, n, e := queue.Ask(d); return told{e: e, n: ints(a, b, n)} }},
		{"Wrong", func(d api.Dawn) told { l, e := queue.Wrong(d); return told{e: e, n: l} }},
		{"Put", func(d api.Dawn) told { y, e := queue.Put(d, g.note); return told{e: e, dawn: y} }},
		{"Strike", func(d api.Dawn) told { y, e := queue.Strike(d, g.numbers); return told{e: e, dawn: y} }},
		{"Add", func(d api.Dawn) told { y, e := queue.Add(d, g.comer); return told{e: e, dawn: y} }},
	}
}
