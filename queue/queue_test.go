package queue_test

import (
	"math"
	"slices"
	"testing"

	"aguador/api"
	"aguador/queue"
)

const (
	huge = math.MaxInt
	low  = math.MinInt
)

// P2.1: what is valid, up to each limit and beyond it.
func TestCheck(t *testing.T) {
	comers := func(n int) func(d *api.Dawn) {
		return func(d *api.Dawn) {
			d.Comers, d.Notes = nil, nil
			for i := range n {
				d.Comers = append(d.Comers, comer(i+1, 1, 0, 1))
			}
		}
	}
	notes := func(l ...api.Begun) func(d *api.Dawn) { return func(d *api.Dawn) { d.Notes = l } }
	noted := func(n int) func(d *api.Dawn) {
		return func(d *api.Dawn) {
			for i := range n {
				d.Notes = append(d.Notes, note(i+1, 1, 0, 9))
			}
		}
	}
	bad := api.ErrDawn
	for i, x := range []struct {
		change func(d *api.Dawn)
		e      api.Errno
	}{
		{func(*api.Dawn) {}, api.OK}, {func(d *api.Dawn) { *d = nobody() }, api.OK}, {func(d *api.Dawn) { *d = torn() }, api.OK}, {func(d *api.Dawn) { *d = api.Dawn{} }, bad},
		{func(d *api.Dawn) { d.Open = 240 }, api.OK}, {func(d *api.Dawn) { d.Open = 241 }, bad}, {func(d *api.Dawn) { d.Open = -1 }, bad}, {func(d *api.Dawn) { d.Open = huge }, bad}, {func(d *api.Dawn) { d.Open = low }, bad},
		{func(d *api.Dawn) { d.Fill = span(1, 9) }, api.OK}, {func(d *api.Dawn) { d.Fill = span(0, 3) }, bad}, {func(d *api.Dawn) { d.Fill = span(3, 10) }, bad}, {func(d *api.Dawn) { d.Fill = span(3, 2) }, bad}, {func(d *api.Dawn) { d.Fill = span(low, huge) }, bad}, {func(d *api.Dawn) { d.Fill = span(huge, huge) }, bad},
		{func(d *api.Dawn) { d.Ranks = ints(6, 1, 3, 3, 6, 2) }, api.OK}, {func(d *api.Dawn) { d.Ranks = ints(1, 2, 3, 4, 5, 6, 6) }, bad}, {func(d *api.Dawn) { d.Ranks[2] = 0 }, bad}, {func(d *api.Dawn) { d.Ranks[2] = 7 }, bad}, {func(d *api.Dawn) { d.Ranks[0] = low }, bad}, {func(d *api.Dawn) { d.Ranks[0] = huge }, bad}, {func(d *api.Dawn) { d.Ranks = nil }, bad}, {func(d *api.Dawn) { d.Ranks = ints(1, 2) }, bad},
		{comers(6), api.OK}, {comers(7), bad}, {comers(0), api.OK}, {func(d *api.Dawn) { d.Comers, d.Ranks = nil, nil }, api.OK},
		{func(d *api.Dawn) { d.Comers[3].Id = 9999 }, api.OK}, {func(d *api.Dawn) { d.Comers[3].Id = 10000 }, bad}, {func(d *api.Dawn) { d.Comers[3].Id = huge }, bad}, {func(d *api.Dawn) { d.Comers[3].Id = 3 }, bad}, {func(d *api.Dawn) { d.Comers[3].Id = 2 }, bad}, {func(d *api.Dawn) { d.Comers[0].Id = 0 }, bad}, {func(d *api.Dawn) { d.Comers[0].Id = -1 }, bad}, {func(d *api.Dawn) { d.Comers[0].Id = low }, bad},
		{func(d *api.Dawn) { d.Comers[0].Guild = 3 }, api.OK}, {func(d *api.Dawn) { d.Comers[0].Guild = 4 }, bad}, {func(d *api.Dawn) { d.Comers[0].Guild = 0 }, bad}, {func(d *api.Dawn) { d.Comers[0].Guild = low }, bad}, {func(d *api.Dawn) { d.Comers[0].Guild = huge }, bad},
		{func(d *api.Dawn) { d.Comers[0].Come = 240 }, api.OK}, {func(d *api.Dawn) { d.Comers[0].Come = 241 }, bad}, {func(d *api.Dawn) { d.Comers[0].Come = -1 }, bad}, {func(d *api.Dawn) { d.Comers[0].Come = low }, bad}, {func(d *api.Dawn) { d.Comers[0].Come = huge }, bad},
		{func(d *api.Dawn) { d.Comers[0].Skins = 5 }, api.OK}, {func(d *api.Dawn) { d.Comers[0].Skins = 6 }, bad}, {func(d *api.Dawn) { d.Comers[0].Skins = 0 }, bad}, {func(d *api.Dawn) { d.Comers[0].Skins = low }, bad}, {func(d *api.Dawn) { d.Comers[0].Skins = huge }, bad},
		{noted(8), api.OK}, {noted(9), bad}, {notes(note(1, 1, 0, huge)), api.OK}, {notes(note(9999, 4, huge, huge)), api.OK}, {notes(note(10000, 4, 0, 0)), bad}, {notes(note(huge, 4, 0, 0)), bad}, {notes(note(0, 4, 0, 0)), bad}, {notes(note(low, 4, 0, 0)), bad},
		{notes(note(2, 1, 0, 0), note(2, 1, 0, 0)), bad}, {notes(note(2, 1, 0, 0), note(1, 1, 0, 0)), bad}, {notes(note(1, 1, 0, 0), note(2, 1, 0, 0)), api.OK},
		{notes(note(1, 5, 0, 0)), bad}, {notes(note(1, 0, 0, 0)), bad}, {notes(note(1, huge, 0, 0)), bad}, {notes(note(1, 1, -1, 0)), bad}, {notes(note(1, 1, low, huge)), bad}, {notes(note(1, 1, 1, 0)), bad},
	} {
		d := chapter()
		x.change(&d)
		if e := queue.Check(d); e != x.e {
			t.Error(i, e)
		}
		if x.e == api.OK {
			continue
		}
		for _, c := range calls(given{minutes: ints(0), order: ints(0), numbers: ints(0)}) {
			if y := c.run(d); y.e != api.ErrDawn || !y.isZero() {
				t.Error(i, c.name, y)
			}
		}
	}
}

// P2.1, R1, R2: of several errors the one that is named first, and nothing beside it.
func TestErrors(t *testing.T) {
	expect := func(d api.Dawn, g given, e api.Errno, names ...string) {
		t.Helper()
		for _, c := range calls(g) {
			if y := c.run(d); slices.Contains(names, c.name) && (y.e != e || e != api.OK && !y.isZero()) {
				t.Error(c.name, g, y)
			}
		}
	}
	for _, d := range []api.Dawn{chapter(), torn(), nobody()} {
		for _, id := range ints(0, 5, -1, low, huge) {
			expect(d, given{one: id, other: id}, api.ErrNone, "Begins", "Ends", "Place", "Before", "Sure", "Last")
		}
		for _, order := range [][]int{ints(5), ints(1, 2, 3), ints(1, 2, 3, 3), ints(1, 2, 3, 5), ints(1, 2, 3, 4, 4), ints(1, 2, 3, 4, 5), ints(low, 2, 3, huge)} {
			expect(d, given{order: order}, api.ErrOrder, "Breaks")
		}
		for _, minutes := range [][]int{ints(2), ints(2, 2, 2), ints(2, 2, 2, 4, 4), ints(2, 2, 2, 3), ints(2, 2, 2, 7), ints(1, 2, 2, 4), ints(4, 2, 2, 4), ints(low, 2, 2, 4), ints(huge, 2, 2, 4)} {
			expect(d, given{minutes: minutes}, api.ErrMinutes, "Serve")
		}
	}
	for _, d := range []api.Dawn{chapter(), torn()} {
		expect(d, given{one: 1, other: 5}, api.ErrNone, "Before")
		expect(d, given{one: 5, other: 1}, api.ErrNone, "Before")
		expect(d, given{}, api.ErrOrder, "Breaks")
		expect(d, given{}, api.ErrMinutes, "Serve")
	}
	g := given{one: 2, other: 2, minute: 15, minutes: ints(2, 2, 2, 4), order: ints(1, 2, 3, 4), note: note(9, 1, 0, 0), comer: comer(9, 1, 0, 1)}
	expect(torn(), g, api.ErrBad, "Orders", "Begins", "Ends", "Place", "Before", "Sure", "Done", "Closes", "Waits", "Ask")
	expect(torn(), g, api.OK, "Check", "Serve", "Breaks", "Wrong", "Put", "Strike", "Add")
	expect(chapter(), g, api.ErrArg, "Before")
	expect(chapter(note(1, 3, 2, 2)), g, api.ErrNone, "Ask")
}

// twoGuilds has two guilds of one rank, each with three comers.
func twoGuilds() api.Dawn {
	return api.Dawn{Open: 5, Fill: span(1, 1), Ranks: ints(4, 4), Comers: []api.Comer{comer(1, 2, 0, 1), comer(2, 2, 0, 1), comer(3, 1, 4, 1), comer(4, 1, 3, 1), comer(5, 2, 5, 1), comer(6, 1, 30, 1)}}
}

// P2.2, P2.9: the chapter's examples, taking turns, and idle minutes.
func TestServe(t *testing.T) {
	turn := func(id, begin, end int) api.Turn { return api.Turn{Comer: id, Begin: begin, End: end} }
	pair := func(a, b api.Comer, ranks ...int) api.Dawn {
		return api.Dawn{Open: 9, Fill: span(1, 2), Ranks: ranks, Comers: []api.Comer{a, b}}
	}
	for i, x := range []struct {
		d       api.Dawn
		minutes []int
		want    []api.Turn
	}{
		{chapter(), ints(2, 2, 2, 4), []api.Turn{turn(1, 0, 2), turn(3, 2, 4), turn(2, 4, 6), turn(4, 6, 10)}},
		{chapter(), ints(3, 2, 2, 4), []api.Turn{turn(1, 0, 3), turn(2, 3, 5), turn(3, 5, 7), turn(4, 7, 11)}},
		{torn(), ints(3, 3, 3, 6), []api.Turn{turn(1, 0, 3), turn(2, 3, 6), turn(3, 6, 9), turn(4, 9, 15)}},
		{twoGuilds(), ints(1, 1, 1, 1, 1, 1), []api.Turn{turn(4, 5, 6), turn(1, 6, 7), turn(3, 7, 8), turn(2, 8, 9), turn(5, 9, 10), turn(6, 30, 31)}},
		{nobody(), nil, nil}, {nobody(), ints(), nil},
		// The least Id, the one who came first, the least guild, and the least rank.
		{pair(comer(1, 1, 3, 1), comer(2, 1, 3, 1), 1), ints(2, 1), []api.Turn{turn(1, 9, 11), turn(2, 11, 12)}},
		{pair(comer(1, 1, 3, 1), comer(2, 1, 2, 1), 1), ints(2, 1), []api.Turn{turn(2, 9, 10), turn(1, 10, 12)}},
		{pair(comer(1, 2, 2, 1), comer(2, 1, 3, 1), 5, 5), ints(2, 1), []api.Turn{turn(2, 9, 10), turn(1, 10, 12)}},
		{pair(comer(1, 1, 2, 1), comer(2, 2, 3, 1), 6, 5), ints(2, 1), []api.Turn{turn(2, 9, 10), turn(1, 10, 12)}},
		// One who comes at the very minute at which the fountain is free waits then.
		{pair(comer(1, 1, 9, 1), comer(2, 1, 11, 1), 1), ints(2, 1), []api.Turn{turn(1, 9, 11), turn(2, 11, 12)}},
		{pair(comer(1, 1, 240, 5), comer(2, 1, 240, 5), 1), ints(10, 10), []api.Turn{turn(1, 240, 250), turn(2, 250, 260)}},
	} {
		if l, e := queue.Serve(x.d, x.minutes); !slices.Equal(l, x.want) || e != api.OK {
			t.Error(i, l, e)
		}
	}
}

// P2.2, P2.8: the chapter's examples, notes of any span, and nobody at all.
func TestOrders(t *testing.T) {
	for i, x := range []struct {
		d    api.Dawn
		want [][]int
	}{
		{chapter(), [][]int{{1, 2, 3, 4}, {1, 3, 2, 4}}},
		{chapter(note(1, 3, 2, 2)), [][]int{{1, 3, 2, 4}}}, {chapter(note(1, 2, 3, 3)), [][]int{{1, 2, 3, 4}}},
		{chapter(note(1, 2, 3, 4)), [][]int{{1, 2, 3, 4}, {1, 3, 2, 4}}}, {chapter(note(1, 2, 4, huge)), [][]int{{1, 3, 2, 4}}},
		{chapter(note(1, 2, 0, huge), note(2, 2, 4, 9), note(3, 2, 0, 5)), [][]int{{1, 3, 2, 4}}},
		{twoGuilds(), [][]int{{4, 1, 3, 2, 5, 6}}}, {nobody(), [][]int{nil}},
	} {
		if l, e := queue.Orders(x.d); !slices.EqualFunc(l, x.want, slices.Equal[[]int]) || e != api.OK {
			t.Error(i, l, e)
		}
	}
}

// P2.3, P2.10: the chapter's examples, and what notes leave.
func TestBeginsEndsPlace(t *testing.T) {
	for i, x := range []struct {
		d                  api.Dawn
		id                 int
		begin, ends, place api.Span
	}{
		{chapter(), 1, span(0, 0), span(2, 3), span(1, 1)}, {chapter(), 2, span(3, 5), span(5, 8), span(2, 3)},
		{chapter(), 3, span(2, 6), span(4, 9), span(2, 3)}, {chapter(), 4, span(6, 9), span(10, 15), span(4, 4)},
		{chapter(note(1, 3, 2, 2)), 2, span(4, 5), span(6, 8), span(3, 3)}, {chapter(note(1, 3, 2, 2)), 1, span(0, 0), span(2, 2), span(1, 1)},
		{chapter(note(1, 4, 9, 9)), 3, span(6, 6), span(9, 9), span(3, 3)}, {chapter(note(1, 4, 9, 9)), 1, span(0, 0), span(3, 3), span(1, 1)},
		{twoGuilds(), 6, span(30, 30), span(31, 31), span(6, 6)},
	} {
		a, e := queue.Begins(x.d, x.id)
		b, f := queue.Ends(x.d, x.id)
		c, g := queue.Place(x.d, x.id)
		if a != x.begin || e != api.OK || b != x.ends || f != api.OK || c != x.place || g != api.OK {
			t.Error(i, a, e, b, f, c, g)
		}
	}
}

// P2.3: the chapter's examples, and minutes however great, of either sign.
func TestBeforeAndSure(t *testing.T) {
	for i, x := range []struct {
		d          api.Dawn
		one, other int
		want       uint8
	}{
		{chapter(), 2, 3, api.KnownOpen}, {chapter(), 3, 2, api.KnownOpen}, {chapter(), 2, 4, api.KnownYes}, {chapter(), 4, 2, api.KnownNo},
		{chapter(note(1, 3, 2, 2)), 3, 2, api.KnownYes}, {chapter(note(1, 3, 2, 2)), 2, 3, api.KnownNo},
	} {
		if k, e := queue.Before(x.d, x.one, x.other); k != x.want || e != api.OK {
			t.Error(i, k, e)
		}
	}
	for i, x := range []struct {
		id, minute int
		want       uint8
	}{
		{4, 15, api.KnownYes}, {4, 14, api.KnownOpen}, {4, 12, api.KnownOpen}, {4, 10, api.KnownOpen}, {4, 9, api.KnownNo},
		{1, 3, api.KnownYes}, {1, 2, api.KnownOpen}, {1, 1, api.KnownNo}, {1, -1, api.KnownNo}, {1, low, api.KnownNo}, {4, huge, api.KnownYes},
	} {
		if k, e := queue.Sure(chapter(), x.id, x.minute); k != x.want || e != api.OK {
			t.Error(i, k, e)
		}
	}
}

// P2.4, P2.15: the chapter's examples, minutes however great, and nobody at all.
func TestDoneClosesWaits(t *testing.T) {
	for i, x := range []struct {
		d      api.Dawn
		minute int
		want   api.Span
	}{
		{chapter(), 6, span(2, 3)}, {chapter(), 2, span(0, 1)}, {chapter(), 3, span(1, 1)}, {chapter(), 9, span(3, 3)}, {chapter(), 15, span(4, 4)},
		{chapter(), -1, span(0, 0)}, {chapter(), low, span(0, 0)}, {chapter(), huge, span(4, 4)}, {nobody(), huge, span(0, 0)},
	} {
		if y, e := queue.Done(x.d, x.minute); y != x.want || e != api.OK {
			t.Error(i, y, e)
		}
	}
	late := api.Dawn{Open: 240, Fill: span(9, 9), Ranks: ints(1), Comers: []api.Comer{comer(1, 1, 0, 5)}}
	for i, x := range []struct {
		d             api.Dawn
		closes, waits api.Span
	}{
		{chapter(), span(10, 15), span(5, 8)}, {chapter(note(1, 3, 2, 2)), span(10, 14), span(5, 7)},
		{twoGuilds(), span(31, 31), span(8, 8)}, {nobody(), span(7, 7), span(0, 0)},
		{late, span(285, 285), span(240, 240)},
	} {
		a, e := queue.Closes(x.d)
		b, f := queue.Waits(x.d)
		if a != x.closes || e != api.OK || b != x.waits || f != api.OK {
			t.Error(i, a, e, b, f)
		}
	}
}

// P2.5, P2.14: the chapter's examples, both ends of the minutes, and notes that allow only some.
func TestLast(t *testing.T) {
	for i, x := range []struct {
		d                api.Dawn
		id, minute, want int
		e                api.Errno
	}{
		{chapter(), 2, 12, 4, api.OK}, {chapter(), 2, 15, 12, api.OK}, {chapter(), 2, 6, 2, api.OK}, {chapter(), 2, 5, 0, api.OK}, {chapter(), 2, 3, 0, api.OK}, {chapter(), 2, 2, 0, api.ErrNone},
		{chapter(), 2, 242, 239, api.OK}, {chapter(), 2, 243, 240, api.OK}, {chapter(), 2, huge, 240, api.OK}, {chapter(), 2, -1, 0, api.ErrNone}, {chapter(), 2, low, 0, api.ErrNone},
		{chapter(note(1, 2, 5, 5)), 2, 8, 5, api.OK}, {chapter(note(1, 2, 5, 5)), 2, 7, 0, api.ErrNone}, {chapter(note(1, 2, huge, huge)), 2, huge, 0, api.ErrNone},
		// What must be false now would be true if it came at another minute.
		{chapter(note(1, 2, 200, 200)), 2, huge, 200, api.OK}, {torn(), 2, huge, 0, api.ErrNone}, {torn(), 1, huge, 0, api.ErrNone},
	} {
		if n, e := queue.Last(x.d, x.id, x.minute); n != x.want || e != x.e {
			t.Error(i, n, e)
		}
	}
}

// P2.5, P2.16: the chapter's examples, and dawns without a truth.
func TestBreaks(t *testing.T) {
	for i, x := range []struct {
		d     api.Dawn
		order []int
		want  int
	}{
		{chapter(), ints(1, 4, 2, 3), 1}, {chapter(), ints(1, 3, 2, 4), 4}, {chapter(), ints(1, 2, 3, 4), 4}, {chapter(), ints(1, 3, 4, 2), 2}, {chapter(), ints(2, 1, 3, 4), 0},
		{chapter(note(1, 3, 2, 2)), ints(1, 2, 3, 4), 1}, {torn(), ints(1, 2, 3, 4), 0}, {nobody(), nil, 0}, {nobody(), ints(), 0},
	} {
		if n, e := queue.Breaks(x.d, x.order); n != x.want || e != api.OK {
			t.Error(i, n, e)
		}
	}
}

// P2.6, P2.13: the chapter's example, the first pair of several, and a single order.
func TestAsk(t *testing.T) {
	for i, x := range []struct {
		d                api.Dawn
		one, other, left int
		e                api.Errno
	}{
		{chapter(), 2, 3, 1, api.OK}, {chapter(note(1, 3, 2, 2)), 0, 0, 0, api.ErrNone}, {nobody(), 0, 0, 0, api.ErrNone}, {torn(), 0, 0, 0, api.ErrBad},
	} {
		if a, b, n, e := queue.Ask(x.d); a != x.one || b != x.other || n != x.left || e != x.e {
			t.Error(i, a, b, n, e)
		}
	}
}

// P2.6, P2.12: the first list of the fewest, and too many.
func TestWrong(t *testing.T) {
	at := func(number, minute int) api.Begun { return note(number, 1, minute, minute) }
	for i, x := range []struct {
		d    api.Dawn
		want []int
		e    api.Errno
	}{
		{chapter(), nil, api.OK}, {nobody(), nil, api.OK}, {chapter(note(1, 3, 2, 2)), nil, api.OK}, {torn(), ints(1), api.OK},
		{chapter(note(1, 3, 2, 2), note(2, 2, 3, 3), note(5, 3, 2, 4)), ints(2), api.OK},
		{chapter(note(1, 1, 0, 0), note(2, 1, 2, 2), note(3, 4, 0, 5)), ints(2, 3), api.OK},
		{chapter(at(1, 0), at(2, 0), at(3, huge)), ints(3), api.OK}, {chapter(at(4, 1), at(6, 2), at(9999, 0)), ints(4, 6), api.OK},
		{chapter(at(1, 1), at(2, 2), at(3, 3)), ints(1, 2, 3), api.OK}, {chapter(at(1, 1), at(2, 1), at(3, 1), at(4, 1)), nil, api.ErrMany},
		{chapter(at(1, 1), at(2, 2), at(3, 3), at(4, 4), at(5, 5), at(6, 6), at(7, 7), at(8, 8)), nil, api.ErrMany},
		{chapter(at(1, 0), at(2, 0), at(3, 0), at(4, 0), at(5, 0), at(6, 1), at(7, 1), at(8, 1)), ints(6, 7, 8), api.OK},
		// Any one of the first two may be false, and the first list is told.
		{chapter(note(3, 2, 3, 3), note(8, 3, 2, 2)), ints(3), api.OK},
	} {
		if l, e := queue.Wrong(x.d); !slices.Equal(l, x.want) || e != x.e {
			t.Error(i, l, e)
		}
	}
}
